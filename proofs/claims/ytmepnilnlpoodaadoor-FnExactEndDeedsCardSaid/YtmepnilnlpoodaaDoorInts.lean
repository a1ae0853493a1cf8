/- Contracts of the helpers that read, copy and compare lists of numbers and plans, and of allInRange.
   Conditions: the bounds in each statement. -/
import Derived.Test.YtmepnilnlpoodaaDoorValid
namespace Go.Proofs.YtmepnilnlpoodaaDoor
open Go.RowKit

def IntsAt (w : World) (A : Option Addr) (xs : List Int) : Prop :=
  ∀ i x, xs[i]? = some x → ∃ b off, A = some ⟨b, off, none⟩ ∧ b < w.heap.size ∧ w.cell? ⟨b, off + i, none⟩ = some (.int .i64 x)

theorem IntsAt.below {w w' : World} {A : Option Addr} {xs : List Int} (h : IntsAt w A xs) (hb : Below w.heap.size w w') : IntsAt w' A xs := by
  intro i x hx
  obtain ⟨b, off, e, hlt, h1⟩ := h i x hx
  exact ⟨b, off, e, Nat.lt_of_lt_of_le hlt hb.size, (hb.cell hlt).trans h1⟩

/-- Block g is the call's own row of the numbers. -/
def OwnInts (w : World) (g : Nat) (xs : List Int) : Prop := w.rowIs g 3 xs.length (fun j => .int .i64 (xs.getD j 0))

theorem OwnInts.below {w w' : World} {g : Nat} {xs : List Int} (h : OwnInts w g xs) (hb : Below w.heap.size w w') : OwnInts w' g xs := World.rowIs.of_block h (hb.block _ (World.rowIs.lt h))
theorem OwnInts.far {w : World} {g : Nat} {xs : List Int} (h : OwnInts w g xs) {a : Addr} (ha : g ≠ a.block) (v : Value) : OwnInts (w.setCell a v) g xs := World.rowIs.setOther h ha v

theorem OwnInts.at_ {w : World} {g : Nat} {xs : List Int} (h : OwnInts w g xs) : IntsAt w (some ⟨g, 0, none⟩) xs := by
  intro i x hx
  have hi : i < xs.length := (List.getElem?_eq_some_iff.1 hx).1
  refine ⟨g, 0, rfl, World.rowIs.lt h, ?_⟩
  rw [Nat.zero_add, World.rowIs.cell h hi]
  simp [hx]

theorem make_ints (n : Nat) (hn : n ≤ 1048576) (w : World) :
    (Instr.makeSlice 23 (.int .i64 (n : Int)) (.int .i64 (n : Int))).run Tryd.prog w = .ok (.slice (some ⟨w.heap.size, 0, none⟩) n n) (w.alloc (.cells (madeCells #[.int .i64 0] n) 3)) :=
  run_make_row' 23 3 (.int .i64 0) 8 Tryd.underlying23 (by kernel_rfl) rfl .i64 .i64 n (by omega) (by omega) w

set_option maxHeartbeats 400000 in
theorem toIntS_any (A : Option Addr) (c : Nat) (xs : List Int) (w : World) (h1 : IntsAt w A xs) (hl : xs.length ≤ 1048576) :
    Calls Tryd.prog 36 #[.slice A xs.length c] w fun e w' => e = .returned (.slice (some ⟨w.heap.size, 0, none⟩) xs.length xs.length) ∧ OwnInts w' w.heap.size xs ∧ Below w.heap.size w w' := by
  have hmk := make_ints xs.length hl
  go_enter Tryd.func36, Tryd.ntmps36
  go_wp2_with fail
  clear hmk
  go_loopw [4] (fun i wr => ∃ k : Nat, k ≤ xs.length ∧ i = .int .i64 k ∧ wr.rowIs w.heap.size 3 xs.length (fun j => if j < k then .int .i64 (xs.getD j 0) else .int .i64 0) ∧ Below w.heap.size w wr) (fun i _ => xs.length - (intOf i).toNat)
  case atStart => exact ⟨0, Nat.zero_le _, rfl, (World.rowIs_made _ _ _ _).congr (fun i hi => by simp), by go_grown⟩
  case round =>
    obtain ⟨k, hk, rfl, hrow, hb⟩ := hrel
    have hsz := hb.size
    by_cases hlt : k < xs.length
    · obtain ⟨b, off, rfl, hbl, hc1⟩ := (h1.below hb) k xs[k] (List.getElem?_eq_getElem hlt)
      have HP : Hid (xs.getD k 0 = xs[k]) := hide (by simp [hlt])
      generalize xs[k] = p at *
      have hz : (0 : Int) ≤ k := by omega
      have hz2 : (k : Int) < xs.length := by omega
      have hq1 := hrow.cell hlt
      have hf := hrow.frozen
      have hglt := hrow.lt
      go_wp2_with fail
      go_roundw
      case rel =>
        refine ⟨k + 1, hlt, by go_num, (hrow.set k _).congr (fun j hj => ?_), by go_grown⟩
        by_cases h : j = k
        · subst h
          rw [if_pos rfl, if_pos (by omega), HP.out]
        · rw [if_neg h]
          by_cases h' : j < k
          · rw [if_pos h', if_pos (by omega)]
          · rw [if_neg h', if_neg (by omega)]
      case measure => simp [intOf]; omega
    · go_wp2_with fail
      go_ret
      exact ⟨rfl, hrow.congr (fun i hi => if_pos (by omega)), by go_grown⟩

set_option maxHeartbeats 400000 in
theorem eqIntS_same (A A' : Option Addr) (c c' : Nat) (xs : List Int) (w : World) (h1 : IntsAt w A xs) (h2 : IntsAt w A' xs) (hl : xs.length ≤ 1048576) :
    Calls Tryd.prog 42 #[.slice A xs.length c, .slice A' xs.length c'] w fun e w' => e = .returned (.bool true) ∧ Below w.heap.size w w' := by
  have he : ((xs.length : Int) != xs.length) = false := by simp
  go_enter Tryd.func42, Tryd.ntmps42
  go_wp2_with fail
  go_loopw [5] (fun i wr => ∃ k : Nat, k ≤ xs.length ∧ i = .int .i64 k ∧ Below w.heap.size w wr) (fun i _ => xs.length - (intOf i).toNat)
  case atStart => exact ⟨0, Nat.zero_le _, rfl, Below.refl _ _⟩
  case round =>
    obtain ⟨k, hk, rfl, hb⟩ := hrel
    have hsz := hb.size
    by_cases hlt : k < xs.length
    · obtain ⟨b, off, rfl, hbl, hc1⟩ := (h1.below hb) k xs[k] (List.getElem?_eq_getElem hlt)
      obtain ⟨b', off', rfl, hbl', hc1'⟩ := (h2.below hb) k xs[k] (List.getElem?_eq_getElem hlt)
      generalize xs[k] = p at *
      have hpp : (p != p) = false := by simp
      have hz : (0 : Int) ≤ k := by omega
      have hz2 : (k : Int) < xs.length := by omega
      go_wp2_with fail
      go_quiet (fail)
      go_wp2_with fail
      go_roundw
      case rel => exact ⟨k + 1, hlt, by go_num, below_drewN hb _⟩
      case measure => simp [intOf]; omega
    · go_wp2_with fail
      go_ret
      exact ⟨rfl, by go_grown⟩

set_option maxHeartbeats 400000 in
theorem szIntS_any (A : Option Addr) (c n : Nat) (left : Int) (w : World) (h0 : 0 ≤ left) (h1 : left ≤ 1048576) (hl : n ≤ 9223372036854775807) :
    Calls Tryd.prog 30 #[.slice A n c, .int .i64 left] w fun e w' => e = .returned (.int .i64 (szP left n)) ∧ w = w' := by
  unfold szP
  by_cases h : left - n < 0
  · rw [if_pos h]
    go_enter Tryd.func30, Tryd.ntmps30
    go_wp2_with fail
    go_ret
    exact ⟨rfl, rfl⟩
  · rw [if_neg h]
    go_enter Tryd.func30, Tryd.ntmps30
    go_wp2_with fail
    go_ret
    exact ⟨rfl, rfl⟩

def szPl (left : Int) (n m : Nat) : Int := if szP left n < 0 then -1 else szP (szP left n) m

theorem szP_neg {left : Int} {n : Nat} (h : szP left n < 0) : szP left n = -1 := by unfold szP at h ⊢; split <;> simp_all
theorem szPl_range (left : Int) (n m : Nat) (h1 : left ≤ 1048576) : -1 ≤ szPl left n m ∧ szPl left n m ≤ 1048576 := by
  unfold szPl
  split
  · omega
  · have := szP_range left n h1
    exact szP_range _ m (by omega)
theorem szP_le {left : Int} {n : Nat} (h : ¬ szP left n < 0) : (n : Int) ≤ left := by unfold szP at h; split at h <;> omega
theorem szPl_le {left : Int} {n m : Nat} (h1 : left ≤ 1048576) (h : ¬ szPl left n m < 0) : n ≤ 1048576 ∧ m ≤ 1048576 := by
  unfold szPl at h
  split at h
  · omega
  · rename_i h2
    have a := szP_le h2
    have b := szP_le h
    have := szP_range left n h1
    omega

def rangeOk (most : Int) (xs : List Int) : Bool := xs.all (fun x => inR x 0 most)

set_option maxHeartbeats 400000 in
theorem allInRange_any (A : Option Addr) (c : Nat) (xs : List Int) (many most : Int) (w : World) (h1 : IntsAt w A xs) (hl : xs.length ≤ 1048576) :
    Calls Tryd.prog 52 #[.slice A xs.length c, .int .i64 many, .int .i64 most] w fun e w' => e = .returned (.bool (decide ((xs.length : Int) = many) && rangeOk most xs)) ∧ Below w.heap.size w w' := by
  by_cases hm : (xs.length : Int) = many
  · have he : ((xs.length : Int) != many) = false := by simp [hm]
    have HR : Hid ((decide ((xs.length : Int) = many) && rangeOk most xs) = rangeOk most xs) := by rw [decide_eq_true hm]; exact hide rfl
    clear hm
    go_enter Tryd.func52, Tryd.ntmps52
    go_wp2_with fail
    go_loopw [15] (fun i wr => ∃ k : Nat, k ≤ xs.length ∧ i = .int .i64 k ∧ Hid (rangeOk most xs = rangeOk most (xs.drop k)) ∧ Below w.heap.size w wr) (fun i _ => xs.length - (intOf i).toNat)
    case atStart => exact ⟨0, Nat.zero_le _, rfl, hide rfl, Below.refl _ _⟩
    case round =>
      obtain ⟨k, hk, rfl, HG, hb⟩ := hrel
      have hsz := hb.size
      by_cases hlt : k < xs.length
      · obtain ⟨b, off, rfl, hbl, hc1⟩ := (h1.below hb) k xs[k] (List.getElem?_eq_getElem hlt)
        have HD : Hid (xs.drop k = xs[k] :: xs.drop (k + 1)) := hide (List.drop_eq_getElem_cons hlt)
        generalize xs[k] = p at *
        have hz : (0 : Int) ≤ k := by omega
        have hz2 : (k : Int) < xs.length := by omega
        cases hp : inR p 0 most with
        | false =>
          have HP := hide hp
          have H3 : Hid (rangeOk most xs = false) := hide (by rw [HG.out, HD.out]; unfold rangeOk; rw [List.all_cons, hp]; rfl)
          clear hp
          go_wp2_with fail
          refine (inRange_is _ _ _ _ HP _).mono ?_
          rintro e w' ⟨rfl, rfl⟩
          go_wp2_with fail
          go_ret
          exact ⟨by rw [HR.out, H3.out]; rfl, by go_grown⟩
        | true =>
          have HP := hide hp
          have H3 : Hid (rangeOk most xs = rangeOk most (xs.drop (k + 1))) := hide (by rw [HG.out, HD.out]; unfold rangeOk; rw [List.all_cons, hp]; rfl)
          clear hp
          go_wp2_with fail
          refine (inRange_is _ _ _ _ HP _).mono ?_
          rintro e w' ⟨rfl, rfl⟩
          go_wp2_with fail
          go_roundw
          case rel => exact ⟨k + 1, hlt, by go_num, H3, by go_grown⟩
          case measure => simp [intOf]; omega
      · have H3 : Hid (rangeOk most xs = true) := hide (by rw [HG.out, List.drop_of_length_le (by omega)]; rfl)
        go_wp2_with fail
        go_ret
        exact ⟨by rw [HR.out, H3.out]; rfl, by go_grown⟩
  · have he : ((xs.length : Int) != many) = true := by simp [hm]
    have HR : Hid ((decide ((xs.length : Int) = many) && rangeOk most xs) = false) := by rw [decide_eq_false hm]; exact hide rfl
    clear hm
    go_enter Tryd.func52, Tryd.ntmps52
    go_wp2_with fail
    go_ret
    exact ⟨by rw [HR.out]; rfl, by go_grown⟩
end Go.Proofs.YtmepnilnlpoodaaDoor
