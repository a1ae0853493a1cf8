/- Guests15: contracts of SeatsMany, of the program and of the reference model.
   Conditions: lists have at most 1048576 elements, of numbers that an int holds. -/
import Derived.Test.YthbainbgimbjeaaDoorZ2
import Derived.Test.YthbainbgimbjeaaDoorZeros
import Derived.Test.YthbainbgimbjeaaDoorRead2
import Derived.Maps.Own
import Derived.Maps.OwnSet
import Derived.Maps.Views
import Derived.Deep.QuietTactic
import Derived.BigQuiet
namespace Go.Proofs.YthbainbgimbjeaaDoor
open Go.RowKit Go.ChangeShapes Go.WideShapes Go.ChangeAt Go.Deep Go.Maps

theorem manyGo_take {xs : List Int} {k : Nat} (h : k < xs.length) : manyGo (xs.take k) (xs.drop k) = (if hasI (xs.take k) xs[k] = true then 0 else 1) + manyGo (xs.take (k + 1)) (xs.drop (k + 1)) := by
  rw [List.drop_eq_getElem_cons h, manyGo, List.take_succ_eq_append_getElem h]
theorem manyGo_range : ∀ (xs seen : List Int), 0 ≤ manyGo seen xs ∧ manyGo seen xs ≤ xs.length
  | [], _ => by simp [manyGo]
  | x :: r, seen => by
    have := manyGo_range r (seen ++ [x])
    unfold manyGo
    simp only [List.length_cons]
    split <;> omega

set_option maxHeartbeats 1000000 in
theorem specSeatsMany_any (A : Option Addr) (c : Nat) (xs : List Int) (w : World) (hA : IntsAt w A xs) (hl : xs.length ≤ 1048576) (hc : xs.length ≤ c) :
    Calls Tryd.prog 27 #[.slice A xs.length c] w fun e w' => e = .returned (.int .i64 (manyGo [] xs)) ∧ Below w.heap.size w w' := by
  go_enter Tryd.func27, Tryd.ntmps27
  go_wp2_with fail
  go_loopw [3, 4] (fun nv i wr => ∃ (k : Nat) (n : Int), k ≤ xs.length ∧ i = .int .i64 k ∧ nv = .int .i64 n ∧ 0 ≤ n ∧ n ≤ k ∧ Hid (manyGo [] xs = n + manyGo (xs.take k) (xs.drop k)) ∧ Below w.heap.size w wr) (fun _ i _ => xs.length - (intOf i).toNat)
  case atStart => exact ⟨0, 0, Nat.zero_le _, rfl, rfl, by omega, by omega, hide (by simp), by go_grown⟩
  case round =>
    obtain ⟨k, n, hk, rfl, rfl, hn0, hn1, HG, hb⟩ := hrel
    have hsz := hb.size
    by_cases hlt : k < xs.length
    · have hAk : IntsAt wr A (xs.take k) := fun i x hx => (hA.below hb) i x (by
        rw [List.getElem?_take] at hx
        split at hx
        · exact hx
        · cases hx)
      have hkl : (xs.take k).length = k := by rw [List.length_take]; omega
      obtain ⟨b', off, rfl, hbl, hc1⟩ := (hA.below hb) k xs[k] (List.getElem?_eq_getElem hlt)
      have HT := hide (manyGo_take hlt)
      generalize xs[k] = p at *
      have hh : ∀ (N c' : Nat), Calls Tryd.prog 48 #[.slice (some ⟨b', off, none⟩) k c', .int .i64 p] (wr.drewN N) fun e w' => e = .returned (.bool (hasI (xs.take k) p)) ∧ w' = wr.drewN N := fun N c' => by
        have := l1Has_any (some ⟨b', off, none⟩) c' (xs.take k) p (wr.drewN N) hAk (by omega)
        rw [hkl] at this
        exact this
      have hz : (0 : Int) ≤ k := by omega
      have hz2 : (k : Int) < xs.length := by omega
      have hz3 : (k : Int) ≤ c := by omega
      clear hAk hkl
      cases hhas : hasI (xs.take k) p with
      | true =>
        have H3 : Hid (manyGo [] xs = n + manyGo (xs.take (k + 1)) (xs.drop (k + 1))) := hide (by rw [HG.out, HT.out, hhas, if_pos rfl]; omega)
        rw [hhas] at hh
        clear hhas
        go_wp2_with fail
        go_quiet ((go_at_call 48; exact Calls.quiet_of_same (hh _ _)))
        go_wp2_with fail
        go_roundw
        case rel => exact ⟨k + 1, n, hlt, by go_num, rfl, hn0, by omega, H3, ⟨hb.os, hb.tape, hb.output, hb.size, hb.block⟩⟩
        case measure => simp [intOf]; omega
      | false =>
        have H3 : Hid (manyGo [] xs = (n + 1) + manyGo (xs.take (k + 1)) (xs.drop (k + 1))) := hide (by rw [HG.out, HT.out, hhas, if_neg (by decide)]; omega)
        rw [hhas] at hh
        clear hhas
        go_wp2_with fail
        go_quiet ((go_at_call 48; exact Calls.quiet_of_same (hh _ _)))
        go_wp2_with fail
        go_roundw
        case rel => exact ⟨k + 1, n + 1, hlt, by go_num, rfl, by omega, by omega, H3, ⟨hb.os, hb.tape, hb.output, hb.size, hb.block⟩⟩
        case measure => simp [intOf]; omega
    · have H3 : Hid (manyGo [] xs = n) := hide (by rw [HG.out, List.drop_of_length_le (by omega), manyGo]; omega)
      go_wp2_with fail
      go_ret
      exact ⟨by rw [H3.out]; rfl, hb⟩

section
variable {H : Type} {enc : TypeId × Value → H} {w : World} {base : Nat} {spare : Nat → Bool} {held : Bool}

theorem open_numbersW {fuel : Nat} {cs : List Value} {x : DataW H × List MemPlace} (h : DataW.trod enc Tryd.prog w base spare held fuel 23 cs = some x) :
    ∃ A c xs, cs = [.slice A xs.length c] ∧ IntsAt w A xs ∧ xs.length ≤ 9223372036854775807 ∧ ∀ x ∈ xs, (Lit.int .i64 x).wf = true := by
  rcases open_slice Tryd.underlying23 h with ⟨rfl, _⟩ | ⟨a, len, cap, m, n, D, Pl, rfl, _, hl, hm, hmm, _, hi⟩
  · exact ⟨none, 0, [], rfl, fun i p hp => by simp at hp, by simp, fun x hx => by simp at hx⟩
  · have hlm : len ≤ m := by rw [hmm]; split <;> omega
    have hcells : Tryd.prog.cellsOf 3 = 1 := by kernel_rfl
    rw [hcells] at hi
    obtain ⟨f, hf⟩ := choose_lt (α := Int) (n := len) (p := fun i p => w.cell? (a.add i) = some (.int .i64 p) ∧ (Lit.int .i64 p).wf = true) (fun i hil => by
      obtain ⟨cs', hc, ht⟩ := hi i (by omega)
      obtain ⟨_, _, hat⟩ := World.cells?_some hc
      obtain ⟨u, hu, hrest⟩ := DataW.trod_int Tryd.underlying3 ht
      have e0 := hat 0 (by omega)
      rw [Go.Deep.add_add, hu] at e0
      exact ⟨u, by simpa using e0, hrest.2⟩)
    refine ⟨some a, cap, (List.range len).map f, by simp, fun i p hp => ?_, by simp only [List.length_map, List.length_range]; unfold maxLen at hm; omega, fun x hx => ?_⟩
    · have hil : i < len := by have := (List.getElem?_eq_some_iff.1 hp).1; simpa using this
      have hpe : f i = p := by simpa [hil] using hp
      have g0 := (hf i hil).1
      rw [hpe] at g0
      obtain ⟨b, off, rfl, hadd⟩ := addr_of (hf 0 (by omega)).1
      rw [hadd] at g0
      exact ⟨b, off, rfl, (cell_lt g0).1, g0⟩
    · obtain ⟨i, hi2, rfl⟩ := List.mem_map.1 hx
      exact (hf i (by simpa using hi2)).2
end

def litI (x : Int) : Lit := .int .i64 x
/-- The set of a list's numbers, as the program's map holds it. -/
def Sm (xs : List Int) (k : Nat) : DataW Unit := setOf (.lit (.bool true)) ((xs.take k).map litI)
theorem Sm_zero (xs : List Int) : Sm xs 0 = .map [] := by simp [Sm, setOf]
theorem Sm_succ {xs : List Int} {k : Nat} (h : k < xs.length) : Sm xs (k + 1) = (Sm xs k).put (litI xs[k]) (.lit (.bool true)) := by
  unfold Sm
  rw [List.take_succ_eq_append_getElem h, List.map_append, List.map_singleton, setOf_snoc]
theorem litI_key (x : Int) : WideAt.IsKeyLit (litI x) := by unfold litI; simp [WideAt.IsKeyLit]
theorem litI_same (x y : Int) : (litI x).sameKey (litI y) = (x == y) := by
  by_cases e : x = y
  · subst e
    rw [WideAt.sameKey_self (litI_key x)]
    simp
  · rw [sameKey_ne (fun h => e (by unfold litI at h; injection h)), beq_eq_false_iff_ne.2 e]

theorem dist_len : ∀ (xs seen : List Int) (acc : List Lit), (∀ y, acc.any (fun l => l.sameKey (litI y)) = hasI seen y) → (((xs.map litI).foldl addKey acc).length : Int) = acc.length + manyGo seen xs
  | [], seen, acc, _ => by simp [manyGo]
  | x :: r, seen, acc, h => by
    rw [List.map_cons, List.foldl_cons]
    have hx : ∀ y, hasI (seen ++ [x]) y = (hasI seen y || (x == y)) := fun y => by unfold hasI; rw [List.any_append]; simp
    have ha : addKey acc (litI x) = if hasI seen x = true then acc else acc ++ [litI x] := by unfold addKey; rw [h x]
    unfold manyGo
    rw [ha]
    cases hs : hasI seen x with
    | true =>
      rw [if_pos rfl, if_pos rfl, dist_len r (seen ++ [x]) acc (fun y => by
        rw [hx, h]
        by_cases e : x = y
        · subst e; rw [hs]; rfl
        · rw [beq_eq_false_iff_ne.2 e, Bool.or_false])]
      omega
    | false =>
      rw [if_neg (by decide), if_neg (by decide), dist_len r (seen ++ [x]) (acc ++ [litI x]) (fun y => by
        rw [hx, List.any_append, h]
        simp [litI_same])]
      rw [List.length_append]
      simp only [List.length_singleton]
      omega

theorem size_many (xs : List Int) : (Maps.size (Sm xs xs.length) : Int) = manyGo [] xs := by
  unfold Sm
  rw [List.take_length, size_setOf _ _ (fun x hx => by
    obtain ⟨y, _, rfl⟩ := List.mem_map.1 hx
    exact litI_key y), dist_len xs [] [] (fun y => rfl)]
  simp

theorem law3 : Keyed Tryd.prog 3 := int_keyed Tryd.underlying3

set_option maxRecDepth 100000 in
set_option maxHeartbeats 1000000 in
theorem implSeatsMany_any (A : Option Addr) (c : Nat) (xs : List Int) (w : World) (hA : IntsAt w A xs) (hl : xs.length ≤ 1048576) (hwf : ∀ x ∈ xs, (Lit.int .i64 x).wf = true) :
    Calls Tryd.prog 26 #[.slice A xs.length c] w fun e w' => e = .returned (.int .i64 (manyGo [] xs)) ∧ Below w.heap.size w w' := by
  have hmm := @run_makeMap Tryd.prog
  have HWF := hide hwf
  clear hwf
  have HSZ := hide (size_many xs)
  go_enter Tryd.func26, Tryd.ntmps26
  go_wp2
  go_loopw [9] (fun i wr => ∃ k : Nat, k ≤ xs.length ∧ i = .int .i64 k ∧ wr.ownsMap Tryd.prog 3 (plainElem Tryd.prog 4) w.heap.size k (Sm xs k) ∧ Below w.heap.size w wr) (fun i _ => xs.length - (intOf i).toNat)
  case atStart => exact ⟨0, Nat.zero_le _, rfl, by rw [Sm_zero]; exact World.ownsMap_made _ _ _ _, (Below.refl _ _).alloc (Nat.le_refl _) _⟩
  case round =>
    obtain ⟨k, hk, rfl, hown, hb⟩ := hrel
    have hsz := hb.size
    by_cases hlt : k < xs.length
    · obtain ⟨b, off, rfl, hbl, hc1⟩ := (hA.below hb) k xs[k] (List.getElem?_eq_getElem hlt)
      have HS := hide (Sm_succ hlt)
      have hkey := keyOf_int_mk Tryd.underlying3 (HWF.out _ (List.getElem_mem hlt))
      generalize xs[k] = p at *
      have hz : (0 : Int) ≤ k := by omega
      have hz2 : (k : Int) < xs.length := by omega
      go_wp2_with (at_mapUpdate; refine wpList_mapUpdate_own _ rfl _ _ _ 59 rfl 3 4 law3 Tryd.underlying59 (plainElem (H := Unit) Tryd.prog 4) w.heap.size k _ rfl hown (by unfold maxLen; omega) _ _ _ rfl rfl hkey _ [] (plainElem_bool Tryd.underlying4 true) ?_; intro w1 hown1 hgrow1)
      have hown2 : w1.ownsMap Tryd.prog 3 (plainElem Tryd.prog 4) w.heap.size (k + 1) (Sm xs (k + 1)) := by rw [HS.out]; exact hown1
      go_roundw
      case rel => exact ⟨k + 1, hlt, by go_num, hown2, hb.grown hgrow1 hsz (fun j hj => by cases hj; exact Nat.le_refl _)⟩
      case measure => simp [intOf]; omega
    · obtain rfl : k = xs.length := by omega
      go_wp2_with (at_len; refine wpList_len_own _ rfl _ 59 rfl 3 4 Tryd.underlying59 _ w.heap.size xs.length _ rfl hown ?_)
      go_ret
      exact ⟨by rw [← HSZ.out]; rfl, hb⟩
end Go.Proofs.YthbainbgimbjeaaDoor
