/- Insertion by exchanges with the one before, as slices' stable sort does it on few elements: on lists, by a key.
   Conditions: none.
   What the insertion by exchanges makes of the indices 0 to n-1: the list that is sorted by key, and by index where keys are equal; such a list is told by its elements.
   Conditions: none.
   slices.SortStableFunc at lists of few numbers, with a comparison that only reads: contracts of the library's insertion sort, of cmp.Compare, and of the program's sort by a key.
   Conditions: lists have at most 19 elements.
   The program's sort of indices by a key, and its use: the greatest numbers first.
   Conditions: lists have at most 19 elements. -/
import Derived.Test.YteloapholoechaaDoorSums
import Derived.Test.YteloapholoechaaDoorTab
import Derived.Test.YteloapholoechaaDoorSlKit
import Derived.Deep.QuietTactic
import Derived.BigQuiet
import Derived.BigRegion
import Derived.Shelf.RegionOpenPlain
import Derived.Shelf.Abstract
namespace Go.Proofs.YteloapholoechaaDoor
open Go.RowKit

def cmpI (a b : Int) : Int := if a < b then -1 else if b < a then 1 else 0
def swapAt (xs : List Int) (j : Nat) : List Int := (xs.set (j + 1) (xs.getD j 0)).set j (xs.getD (j + 1) 0)
def sink (key : Int → Int) : Nat → List Int → List Int
  | 0, xs => xs
  | j + 1, xs => if key (xs.getD (j + 1) 0) < key (xs.getD j 0) then sink key j (swapAt xs j) else xs
def isortTo (key : Int → Int) (xs : List Int) : Nat → List Int
  | 0 => xs
  | k + 1 => sink key k (isortTo key xs k)

theorem sink_succ (key : Int → Int) (j : Nat) (xs : List Int) : sink key (j + 1) xs = if key (xs.getD (j + 1) 0) < key (xs.getD j 0) then sink key j (swapAt xs j) else xs := rfl

theorem cmpI_neg {a b : Int} : cmpI a b < 0 ↔ a < b := by
  unfold cmpI
  split
  · omega
  · split <;> omega

theorem swapAt_len (xs : List Int) (j : Nat) : (swapAt xs j).length = xs.length := by simp [swapAt]
theorem sink_len (key : Int → Int) : ∀ (j : Nat) (xs : List Int), (sink key j xs).length = xs.length
  | 0, _ => rfl
  | j + 1, xs => by
    unfold sink
    split
    · rw [sink_len key j, swapAt_len]
    · rfl
theorem isortTo_len (key : Int → Int) (xs : List Int) : ∀ k, (isortTo key xs k).length = xs.length
  | 0 => rfl
  | k + 1 => by rw [isortTo, sink_len, isortTo_len key xs k]

theorem swapAt_mem {xs : List Int} {j : Nat} (hj : j + 1 < xs.length) {y : Int} (h : y ∈ swapAt xs j) : y ∈ xs := by
  unfold swapAt at h
  rcases List.mem_or_eq_of_mem_set h with h | rfl
  · rcases List.mem_or_eq_of_mem_set h with h | rfl
    · exact h
    · simp [show j < xs.length by omega]
  · simp [hj]
theorem sink_mem (key : Int → Int) : ∀ (j : Nat) (xs : List Int) (y : Int), j < xs.length → y ∈ sink key j xs → y ∈ xs
  | 0, _, _, _, h => h
  | j + 1, xs, y, hj, h => by
    unfold sink at h
    split at h
    · exact swapAt_mem hj (sink_mem key j _ y (by rw [swapAt_len]; omega) h)
    · exact h
theorem isortTo_mem (key : Int → Int) (xs : List Int) (y : Int) : ∀ k, k ≤ xs.length → y ∈ isortTo key xs k → y ∈ xs
  | 0, _, h => h
  | k + 1, hk, h => isortTo_mem key xs y k (by omega) (sink_mem key k _ y (by rw [isortTo_len]; omega) h)

theorem sink_congr {key key' : Int → Int} : ∀ (j : Nat) (xs : List Int), j < xs.length → (∀ y ∈ xs, key y = key' y) → sink key j xs = sink key' j xs
  | 0, _, _, _ => rfl
  | j + 1, xs, hj, h => by
    unfold sink
    rw [h _ (by simp [hj] : xs.getD (j + 1) 0 ∈ xs), h _ (by simp [show j < xs.length by omega] : xs.getD j 0 ∈ xs)]
    split
    · exact sink_congr j _ (by rw [swapAt_len]; omega) (fun y hy => h y (swapAt_mem hj hy))
    · rfl
end Go.Proofs.YteloapholoechaaDoor

namespace Go.Proofs.YteloapholoechaaDoor
open Go.RowKit

def lexLt (key : Int → Int) (a b : Int) : Prop := key a < key b ∨ (key a = key b ∧ a < b)
theorem lexLt_trans {key : Int → Int} {a b c : Int} (h : lexLt key a b) (k : lexLt key b c) : lexLt key a c := by
  unfold lexLt at *
  omega
theorem lexLt_irrefl {key : Int → Int} {a : Int} (h : lexLt key a a) : False := by
  unfold lexLt at h
  omega
theorem lexLt_asymm {key : Int → Int} {a b : Int} (h : lexLt key a b) (k : lexLt key b a) : False := lexLt_irrefl (lexLt_trans h k)
theorem lexLt_total {key : Int → Int} {a b : Int} (h : a ≠ b) : lexLt key a b ∨ lexLt key b a := by
  unfold lexLt
  omega

/-- A strictly sorted list is told by its elements. -/
theorem sorted_eq {key : Int → Int} : ∀ {l m : List Int}, l.Pairwise (lexLt key) → m.Pairwise (lexLt key) → (∀ x, x ∈ l ↔ x ∈ m) → l = m
  | [], [], _, _, _ => rfl
  | [], y :: m, _, _, h => absurd ((h y).2 (by simp)) (by simp)
  | x :: l, [], _, _, h => absurd ((h x).1 (by simp)) (by simp)
  | x :: l, y :: m, hl, hm, h => by
    rw [List.pairwise_cons] at hl hm
    have hxy : x = y := by
      rcases List.mem_cons.1 ((h x).1 (by simp)) with e | e
      · exact e
      · rcases List.mem_cons.1 ((h y).2 (by simp)) with e' | e'
        · exact e'.symm
        · exact absurd (lexLt_asymm (hm.1 x e) (hl.1 y e')) (by simp)
    subst hxy
    congr 1
    refine sorted_eq hl.2 hm.2 (fun z => ⟨fun hz => ?_, fun hz => ?_⟩)
    · rcases List.mem_cons.1 ((h z).1 (by simp [hz])) with e | e
      · subst e
        exact absurd (hl.1 z hz) (fun hh => lexLt_irrefl hh)
      · exact e
    · rcases List.mem_cons.1 ((h z).2 (by simp [hz])) with e | e
      · subst e
        exact absurd (hm.1 z hz) (fun hh => lexLt_irrefl hh)
      · exact e

def insRev (key : Int → Int) (x : Int) : List Int → List Int
  | [] => [x]
  | y :: r => if key x < key y then y :: insRev key x r else x :: y :: r

theorem swapAt_app (p : List Int) (y x : Int) (t : List Int) : swapAt (p ++ y :: x :: t) p.length = p ++ x :: y :: t := by
  unfold swapAt
  have h1 : (p ++ y :: x :: t).getD (p.length + 1) 0 = x := by simp [List.getD_eq_getElem?_getD]
  have h0 : (p ++ y :: x :: t).getD p.length 0 = y := by simp [List.getD_eq_getElem?_getD]
  rw [h1, h0, List.set_append_right _ _ (by omega), Nat.add_sub_cancel_left, List.set_append_right _ _ (by omega), Nat.sub_self]
  rfl

theorem sink_app (key : Int → Int) : ∀ (r : List Int) (x : Int) (t : List Int), sink key r.length (r.reverse ++ x :: t) = (insRev key x r).reverse ++ t
  | [], x, t => rfl
  | y :: r, x, t => by
    rw [List.length_cons, sink]
    have e : (y :: r).reverse ++ x :: t = r.reverse ++ y :: x :: t := by simp
    have hl : r.length = r.reverse.length := by simp
    have h1 : ((y :: r).reverse ++ x :: t).getD (r.length + 1) 0 = x := by rw [e, hl]; simp [List.getD_eq_getElem?_getD]
    have h0 : ((y :: r).reverse ++ x :: t).getD r.length 0 = y := by rw [e, hl]; simp [List.getD_eq_getElem?_getD]
    rw [h1, h0]
    unfold insRev
    by_cases h : key x < key y
    · rw [if_pos h, if_pos h, e]
      have := swapAt_app r.reverse y x t
      rw [← hl] at this
      rw [this, sink_app key r x (y :: t)]
      simp
    · rw [if_neg h, if_neg h, e]
      simp

def revSort (key : Int → Int) (xs : List Int) : List Int := xs.foldl (fun r x => insRev key x r) []
theorem insRev_len (key : Int → Int) (x : Int) : ∀ r : List Int, (insRev key x r).length = r.length + 1
  | [] => rfl
  | y :: r => by
    unfold insRev
    split
    · simp [insRev_len key x r]
    · simp
theorem revSort_len (key : Int → Int) (xs : List Int) : (revSort key xs).length = xs.length := by
  have : ∀ (l r : List Int), (l.foldl (fun r x => insRev key x r) r).length = r.length + l.length := by
    intro l
    induction l with
    | nil => intro r; simp
    | cons x l ih => intro r; rw [List.foldl_cons, ih, insRev_len]; simp; omega
  simpa [revSort] using this xs []
theorem isortTo_rev (key : Int → Int) (xs : List Int) : ∀ k, k ≤ xs.length → isortTo key xs k = (revSort key (xs.take k)).reverse ++ xs.drop k
  | 0, _ => by simp [isortTo, revSort]
  | k + 1, hk => by
    have ih := isortTo_rev key xs k (by omega)
    have hd : xs.drop k = xs[k] :: xs.drop (k + 1) := List.drop_eq_getElem_cons (by omega)
    have ht : xs.take (k + 1) = xs.take k ++ [xs[k]] := by rw [List.take_succ_eq_append_getElem (by omega)]
    have hl : (revSort key (xs.take k)).length = k := by rw [revSort_len, List.length_take]; omega
    have hs := sink_app key (revSort key (xs.take k)) xs[k] (xs.drop (k + 1))
    rw [hl] at hs
    have e : revSort key (xs.take (k + 1)) = insRev key xs[k] (revSort key (xs.take k)) := by
      rw [ht]
      unfold revSort
      rw [List.foldl_append]
      rfl
    rw [isortTo, ih, hd, hs, e]
theorem isortTo_done (key : Int → Int) (xs : List Int) : isortTo key xs xs.length = (revSort key xs).reverse := by
  rw [isortTo_rev key xs xs.length (Nat.le_refl _)]
  simp

theorem insRev_mem {key : Int → Int} {x y : Int} : ∀ {r : List Int}, y ∈ insRev key x r ↔ y = x ∨ y ∈ r
  | [] => by simp [insRev]
  | z :: r => by
    unfold insRev
    split
    · simp only [List.mem_cons, insRev_mem (r := r)]
      exact ⟨fun h => by rcases h with h | h | h <;> simp [h], fun h => by rcases h with h | h | h <;> simp [h]⟩
    · simp
theorem insRev_sorted {key : Int → Int} {x : Int} : ∀ {r : List Int}, r.Pairwise (fun a b => lexLt key b a) → (∀ y ∈ r, y < x) → (insRev key x r).Pairwise (fun a b => lexLt key b a)
  | [], _, _ => by simp [insRev]
  | y :: r, h, hx => by
    have hp := List.pairwise_cons.1 h
    unfold insRev
    by_cases e : key x < key y
    · rw [if_pos e, List.pairwise_cons]
      refine ⟨fun z hz => ?_, insRev_sorted hp.2 (fun z hz => hx z (by simp [hz]))⟩
      rcases insRev_mem.1 hz with rfl | hz
      · exact .inl e
      · exact hp.1 z hz
    · rw [if_neg e, List.pairwise_cons]
      refine ⟨fun z hz => ?_, h⟩
      have hyx : lexLt key y x := by
        have := hx y (by simp)
        unfold lexLt
        omega
      rcases List.mem_cons.1 hz with rfl | hz
      · exact hyx
      · exact lexLt_trans (hp.1 z hz) hyx

def iotaI (n : Nat) : List Int := tab n (fun i => (i : Int))
theorem iotaI_mem {n : Nat} {x : Int} : x ∈ iotaI n ↔ 0 ≤ x ∧ x < n := by
  unfold iotaI tab
  simp only [List.mem_map, List.mem_range]
  constructor
  · rintro ⟨a, ha, rfl⟩
    omega
  · intro h
    exact ⟨x.toNat, by omega, by omega⟩
theorem iotaI_len (n : Nat) : (iotaI n).length = n := tab_len _ _
theorem iotaI_snoc (n : Nat) : iotaI (n + 1) = iotaI n ++ [(n : Int)] := by rw [iotaI, iotaI, ← tab_snoc]

theorem revSort_iota (key : Int → Int) : ∀ n : Nat, (revSort key (iotaI n)).Pairwise (fun a b => lexLt key b a) ∧ ∀ x, x ∈ revSort key (iotaI n) ↔ 0 ≤ x ∧ x < n
  | 0 => ⟨by simp [revSort, iotaI, tab], fun x => by simp [revSort, iotaI, tab]⟩
  | n + 1 => by
    have ih := revSort_iota key n
    have e : revSort key (iotaI (n + 1)) = insRev key n (revSort key (iotaI n)) := by rw [iotaI_snoc]; simp [revSort, List.foldl_append]
    rw [e]
    refine ⟨insRev_sorted ih.1 (fun y hy => by have := (ih.2 y).1 hy; omega), fun x => ?_⟩
    rw [insRev_mem, ih.2 x]
    omega

/-- The indices 0 to n-1 by key, those with equal keys in their order. -/
def sortBy (key : Int → Int) (n : Nat) : List Int := isortTo key (iotaI n) n
theorem sortBy_eq (key : Int → Int) (n : Nat) : sortBy key n = (revSort key (iotaI n)).reverse := by
  have := isortTo_done key (iotaI n)
  rw [iotaI_len] at this
  exact this
theorem sortBy_sorted (key : Int → Int) (n : Nat) : (sortBy key n).Pairwise (lexLt key) := by
  rw [sortBy_eq, List.pairwise_reverse]
  exact (revSort_iota key n).1
theorem sortBy_mem {key : Int → Int} {n : Nat} {x : Int} : x ∈ sortBy key n ↔ 0 ≤ x ∧ x < n := by
  rw [sortBy_eq, List.mem_reverse]
  exact (revSort_iota key n).2 x
theorem sortBy_len (key : Int → Int) (n : Nat) : (sortBy key n).length = n := by
  rw [sortBy, isortTo_len, iotaI_len]
theorem sortBy_unique {key : Int → Int} {n : Nat} {l : List Int} (h : l.Pairwise (lexLt key)) (hm : ∀ x, x ∈ l ↔ 0 ≤ x ∧ x < n) : l = sortBy key n :=
  sorted_eq h (sortBy_sorted key n) (fun x => by rw [hm x, sortBy_mem])
end Go.Proofs.YteloapholoechaaDoor

namespace Go.Proofs.YteloapholoechaaDoor
open Go.RowKit Go.ChangeShapes Go.WideShapes Go.ChangeAt Go.Deep

set_option maxHeartbeats 400000 in
theorem isNaN_any (x : Int) (w : World) : Calls Tryd.prog 111 #[.int .i64 x] w fun e w' => e = .returned (.bool false) ∧ w' = w := by
  have hx : (x != x) = false := by simp
  go_enter Tryd.func111, Tryd.ntmps111
  go_wp2_with fail
  go_ret
  exact ⟨rfl, rfl⟩

set_option maxHeartbeats 400000 in
theorem compare_any (a b : Int) (w : World) : Calls Tryd.prog 101 #[.int .i64 a, .int .i64 b] w fun e w' => e = .returned (.int .i64 (cmpI a b)) ∧ w' = w := by
  rcases Int.lt_trichotomy a b with h | h | h
  · have HC : Hid (cmpI a b = -1) := hide (by unfold cmpI; rw [if_pos h])
    go_enter Tryd.func101, Tryd.ntmps101
    go_wp2_with fail
    refine (isNaN_any _ _).mono ?_
    rintro e w1 ⟨rfl, rfl⟩
    go_wp2_with fail
    refine (isNaN_any _ _).mono ?_
    rintro e w1 ⟨rfl, rfl⟩
    go_wp2_with fail
    go_ret
    exact ⟨by rw [HC.out]; rfl, rfl⟩
  · subst h
    have HC : Hid (cmpI a a = 0) := hide (by unfold cmpI; rw [if_neg (by omega), if_neg (by omega)])
    go_enter Tryd.func101, Tryd.ntmps101
    go_wp2_with fail
    refine (isNaN_any _ _).mono ?_
    rintro e w1 ⟨rfl, rfl⟩
    go_wp2_with fail
    refine (isNaN_any _ _).mono ?_
    rintro e w1 ⟨rfl, rfl⟩
    go_wp2_with fail
    go_ret
    exact ⟨by rw [HC.out]; rfl, rfl⟩
  · have HC : Hid (cmpI a b = 1) := hide (by unfold cmpI; rw [if_neg (by omega), if_pos h])
    have h' : ¬ a < b := by omega
    go_enter Tryd.func101, Tryd.ntmps101
    go_wp2_with fail
    refine (isNaN_any _ _).mono ?_
    rintro e w1 ⟨rfl, rfl⟩
    go_wp2_with fail
    refine (isNaN_any _ _).mono ?_
    rintro e w1 ⟨rfl, rfl⟩
    go_wp2_with fail
    go_ret
    exact ⟨by rw [HC.out]; rfl, rfl⟩

/-- What is asked of a comparison: in every world that keeps all blocks but the sorted one, at indices below n, it tells how their keys compare; it reads and may draw. -/
def CmpK (w : World) (g n : Nat) (gc : Nat) (cb : Array Value) (key : Int → Int) : Prop :=
  ∀ W, w.grownBy W (some g) → ∀ x y : Int, 0 ≤ x → x < n → 0 ≤ y → y < n → Calls Tryd.prog gc (#[.int .i64 x, .int .i64 y] ++ cb) W fun e W' => e = .returned (.int .i64 (cmpI (key x) (key y))) ∧ ∃ m, W' = W.drewN m
/-- The same of a key. -/
def KeyK (w : World) (g n : Nat) (gk : Nat) (kb : Array Value) (key : Int → Int) : Prop :=
  ∀ W, w.grownBy W (some g) → ∀ x : Int, 0 ≤ x → x < n → Calls Tryd.prog gk (#[.int .i64 x] ++ kb) W fun e W' => e = .returned (.int .i64 (key x)) ∧ ∃ m, W' = W.drewN m

theorem drewN_grown {w W : World} {q : Option Nat} (h : w.grownBy W q) (n : Nat) : w.grownBy (W.drewN n) q := ⟨h.os, h.tape, h.output, h.size, h.block⟩
theorem drewN_ints {W : World} {lo : Nat} {v : Value} {xs : List Int} (h : IntSl W lo v xs) (n : Nat) : IntSl (W.drewN n) lo v xs := h

set_option maxRecDepth 1000000 in
set_option maxHeartbeats 4000000 in
theorem insertionSort_any (lo g cap n m : Nat) (xs : List Int) (key : Int → Int) (b : Value) (w : World) (hlen : xs.length = n) (hn : n ≤ 1048576) (HR : Hid (∀ x ∈ xs, 0 ≤ x ∧ x < m))
    (h : IntSl w lo (.slice (some ⟨g, 0, none⟩) n cap) xs) (HC : Hid (CmpK w g m 100 #[b] key)) :
    Calls Tryd.prog 116 #[.slice (some ⟨g, 0, none⟩) n cap, .int .i64 0, .int .i64 n, .func (.func 100) #[] #[b]] w fun e w' =>
      e = .returned (.tuple #[]) ∧ IntSl w' lo (.slice (some ⟨g, 0, none⟩) n cap) (isortTo key xs n) ∧ w.grownBy w' (some g) := by
  have mixed : Tryd.prog.follows .mixedOrders = true := by kernel_rfl
  have eg : ∀ args w, (callFunc 100 args).run Tryd.prog w = .ok (.enter 100 args) w := enters_of Tryd.func100 (by kernel_rfl) rfl
  go_enter Tryd.func116, Tryd.ntmps116
  go_wp2_with fail
  go_loopw [8] (fun iv wr => ∃ (i : Nat) (ys : List Int), 1 ≤ i ∧ (i ≤ n ∨ n = 0) ∧ iv = .int .i64 i ∧ Hid (ys = isortTo key xs i ∧ ys.length = n ∧ (∀ x ∈ ys, 0 ≤ x ∧ x < m)) ∧ IntSl wr lo (.slice (some ⟨g, 0, none⟩) n cap) ys ∧ w.grownBy wr (some g)) (fun iv _ => n + 1 - (intOf iv).toNat)
  case atStart => exact ⟨1, xs, Nat.le_refl _, by omega, by go_num, hide ⟨rfl, hlen, HR.out⟩, h, World.grownBy.refl _ _⟩
  case round =>
    clear h
    obtain ⟨i, ys, hi1, hin, rfl, HY, hS, hg⟩ := hrel
    by_cases hlt : i < n
    · have hz : (i : Int) < n := by omega
      have hz0 : (0 : Int) ≤ i := by omega
      have HS := hide hS
      have HG := hide hg
      clear hS hg
      go_wp2_with fail
      obtain ⟨wo, rfl⟩ : ∃ wo : World, wo = wr := ⟨_, rfl⟩
      go_loopw [9] (fun jv wr => ∃ (j : Nat) (zs : List Int), j ≤ i ∧ jv = .int .i64 j ∧ Hid (sink key j zs = sink key i ys ∧ zs.length = n ∧ (∀ x ∈ zs, 0 ≤ x ∧ x < m)) ∧ IntSl wr lo (.slice (some ⟨g, 0, none⟩) n cap) zs ∧ w.grownBy wr (some g)) (fun jv _ => (intOf jv).toNat)
      case atStart => exact ⟨i, ys, Nat.le_refl _, rfl, hide ⟨rfl, HY.out.2.1, HY.out.2.2⟩, HS.out, HG.out⟩
      case round =>
        clear HS HG
        obtain ⟨j, zs, hji, rfl, HZ, hS, hg⟩ := hrel
        have hzl := HZ.out.2.1
        cases j with
        | zero =>
          have H3 : Hid (zs = isortTo key xs (i + 1) ∧ zs.length = n ∧ (∀ x ∈ zs, 0 ≤ x ∧ x < m)) := hide ⟨by
            have := HZ.out.1
            rw [isortTo, ← HY.out.1, ← this]
            rfl, HZ.out.2⟩
          clear hzl
          go_wp2_with fail
          go_quiet (fail)
          go_wp2_with fail
          go_roundw
          case rel => exact ⟨i + 1, zs, by omega, by omega, by go_num, H3, drewN_ints hS _, drewN_grown hg _⟩
          case measure => simp [intOf]; omega
        | succ j =>
          have hj1 : j + 1 < zs.length := by omega
          have hj0 : j < zs.length := by omega
          have hcx := hS.cellAt (List.getElem?_eq_getElem hj1)
          have hcy := hS.cellAt (List.getElem?_eq_getElem hj0)
          have hfx := hS.frozenAt (j + 1)
          have hfy := hS.frozenAt j
          have hx := HZ.out.2.2 _ (List.getElem_mem hj1)
          have hy := HZ.out.2.2 _ (List.getElem_mem hj0)
          have HX : Hid (zs.getD (j + 1) 0 = zs[j + 1]) := hide (by simp [hj1])
          have HYY : Hid (zs.getD j 0 = zs[j]) := hide (by simp [hj0])
          generalize zs[j + 1] = x at *
          generalize zs[j] = y at *
          have hc : ∀ N, Calls Tryd.prog 100 #[.int .i64 x, .int .i64 y, b] (wr.drewN N) fun e W' => e = .returned (.int .i64 (cmpI (key x) (key y))) ∧ ∃ m, W' = (wr.drewN N).drewN m :=
            fun N => HC.out _ (drewN_grown hg N) x y hx.1 hx.2 hy.1 hy.2
          have hz1 : (0 : Int) ≤ (j : Int) + 1 := by omega
          have hz2 : (j : Int) + 1 < n := by omega
          have hz3 : (j : Int) < n := by omega
          have hz4 : decide ((0 : Int) < (j : Int) + 1) = true := decide_eq_true (by omega)
          have hwp : IntKind.i64.wrap (j : Int) = (j : Int) := IntWalk.i64_in _ (by omega)
          have e0 : ((j : Int) + 1).toNat = j + 1 := by omega
          obtain ⟨q, hq⟩ : ∃ q, cmpI (key x) (key y) = q := ⟨_, rfl⟩
          rw [hq] at hc
          have HS := hide hS
          have HG := hide hg
          clear hx hy hj1 hj0 hS hg hzl
          by_cases hlv : q < 0
          · have hld : decide (q < 0) = true := decide_eq_true hlv
            have H3 : Hid (sink key j (swapAt zs j) = sink key i ys ∧ (swapAt zs j).length = n ∧ (∀ x ∈ swapAt zs j, 0 ≤ x ∧ x < m)) := hide (by
              refine ⟨?_, by rw [swapAt_len]; exact HZ.out.2.1, fun u hu => HZ.out.2.2 u (swapAt_mem (by have := HZ.out.2.1; omega) hu)⟩
              rw [← HZ.out.1, sink_succ, if_pos]
              rw [HX.out, HYY.out, ← cmpI_neg, hq]
              exact hlv)
            have HSW : Hid (swapAt zs j = (zs.set (j + 1) y).set j x) := hide (by unfold swapAt; rw [HX.out, HYY.out])
            clear hq
            go_wp2_with fail
            go_quiet_o (first | (go_at_fn 100; refine Calls.quiet_of (hc _)))
            go_wp2_with fail
            go_big_region_o
            all_goals go_wp2
            all_goals
              have q1 := drewN_ints HS.out (nq + 1)
              have q2 := IntSl.store q1 (j + 1) y
              have q3 := IntSl.store q2 j x
              exact ⟨⟨j, swapAt zs j, by omega, rfl, H3, by rw [HSW.out]; exact q3, ((drewN_grown HG.out (nq + 1)).trans (IntSl.grownSet q1 (j + 1) y)).trans (IntSl.grownSet q2 j x)⟩, by simp [intOf]⟩
          · have hld : decide (q < 0) = false := decide_eq_false hlv
            have H3 : Hid (zs = isortTo key xs (i + 1) ∧ zs.length = n ∧ (∀ x ∈ zs, 0 ≤ x ∧ x < m)) := hide ⟨by
              have := HZ.out.1
              rw [sink_succ, if_neg (by rw [HX.out, HYY.out, ← cmpI_neg, hq]; exact hlv)] at this
              rw [isortTo, ← HY.out.1, this], HZ.out.2⟩
            clear hq
            go_wp2_with fail
            go_quiet_o (first | (go_at_fn 100; refine Calls.quiet_of (hc _)))
            go_wp2_with fail
            go_roundw
            case rel => exact ⟨i + 1, zs, by omega, by omega, by go_num, H3, drewN_ints HS.out _, drewN_grown HG.out _⟩
            case measure => simp [intOf]; omega
    · have hzn : ¬ (i : Int) < n := by omega
      have H3 : Hid (ys = isortTo key xs n) := hide (by
        rcases hin with h | h
        · obtain rfl : i = n := by omega
          exact HY.out.1
        · subst h
          have a := HY.out.2.1
          have b' : ys = [] := List.eq_nil_of_length_eq_zero a
          have c : xs = [] := List.eq_nil_of_length_eq_zero hlen
          rw [b', c]
          rfl)
      go_wp2_with fail
      go_end0
      exact ⟨rfl, by rw [← H3.out]; exact hS, hg⟩
end Go.Proofs.YteloapholoechaaDoor

namespace Go.Proofs.YteloapholoechaaDoor
open Go.RowKit Go.ChangeShapes Go.WideShapes Go.ChangeAt Go.Deep

theorem KeyK.alloc {w : World} {g n gk : Nat} {kb : Array Value} {key : Int → Int} (h : KeyK w g n gk kb key) (o : Obj) : KeyK (w.alloc o) g n gk kb key :=
  fun W hg => h W ((World.grownBy_alloc w o _).trans hg)

set_option maxHeartbeats 1000000 in
theorem sortBy1_any (w : World) (g n gk bx : Nat) (kb : Array Value) (key : Int → Int) (heg : ∀ args w, (callFunc gk args).run Tryd.prog w = .ok (.enter gk args) w) (HK : Hid (KeyK w g n gk kb key))
    (hbx : w.cell? ⟨bx, 0, none⟩ = some (.func (.func gk) #[] kb)) (hne : bx ≠ g) : CmpK w g n 100 #[.pointer (some ⟨bx, 0, none⟩)] key := by
  intro W hg x y hx0 hx1 hy0 hy1
  have hc : W.cell? ⟨bx, 0, none⟩ = some (.func (.func gk) #[] kb) := hg.cell hbx (by intro e; injection e with e; exact hne e)
  have hkx : ∀ N, Calls Tryd.prog gk (#[.int .i64 x] ++ kb) (W.drewN N) fun e W' => e = .returned (.int .i64 (key x)) ∧ ∃ m, W' = (W.drewN N).drewN m := fun N => HK.out _ (drewN_grown hg N) x hx0 hx1
  have hky : ∀ N, Calls Tryd.prog gk (#[.int .i64 y] ++ kb) (W.drewN N) fun e W' => e = .returned (.int .i64 (key y)) ∧ ∃ m, W' = (W.drewN N).drewN m := fun N => HK.out _ (drewN_grown hg N) y hy0 hy1
  clear hg hbx hne
  show Calls Tryd.prog 100 #[.int .i64 x, .int .i64 y, .pointer (some ⟨bx, 0, none⟩)] W _
  have mixed : Tryd.prog.follows .mixedOrders = true := by kernel_rfl
  go_enter Tryd.func100, Tryd.ntmps100
  go_wp2_with fail
  go_quiet_o (first | (go_at_fn gk; first | (with_reducible refine Calls.quiet_of (hkx _)) | (with_reducible refine Calls.quiet_of (hky _))) | (go_at_call 101; exact Calls.quiet_of_same (compare_any _ _ _)))
  go_wp2_with fail
  go_ret
  exact ⟨rfl, _, rfl⟩

set_option maxHeartbeats 1000000 in
theorem stableCmp_any (lo g cap n m : Nat) (xs : List Int) (key : Int → Int) (b : Value) (w : World) (hlen : xs.length = n) (hn : n < 20) (HR : Hid (∀ x ∈ xs, 0 ≤ x ∧ x < m))
    (h : IntSl w lo (.slice (some ⟨g, 0, none⟩) n cap) xs) (HC : Hid (CmpK w g m 100 #[b] key)) :
    Calls Tryd.prog 110 #[.slice (some ⟨g, 0, none⟩) n cap, .int .i64 n, .func (.func 100) #[] #[b]] w fun e w' =>
      e = .returned (.tuple #[]) ∧ IntSl w' lo (.slice (some ⟨g, 0, none⟩) n cap) (isortTo key xs n) ∧ w.grownBy w' (some g) := by
  have hn0 : ¬ ((20 : Int) ≤ n) := by omega
  have hn1 : ¬ ((20 : Int) < n) := by omega
  go_enter Tryd.func110, Tryd.ntmps110
  go_wp2_with fail
  go_loopw [7, 8] (fun av bv wr => av = .int .i64 0 ∧ bv = .int .i64 20 ∧ wr = w) (fun _ _ _ => 0)
  case atStart => exact ⟨rfl, rfl, rfl⟩
  case round =>
    obtain ⟨rfl, rfl, rfl⟩ := hrel
    go_wp2_with fail
    refine (insertionSort_any lo g cap n m xs key b _ hlen (by omega) HR h HC).mono ?_
    rintro e w1 ⟨rfl, hS, hg⟩
    have HS := hide hS
    have HG := hide hg
    clear hS hg
    go_wp2_with fail
    go_loopw [6] (fun av wr => av = .int .i64 20 ∧ wr = w1) (fun _ _ => 0)
    case atStart => exact ⟨rfl, rfl⟩
    case round =>
      obtain ⟨rfl, rfl⟩ := hrel
      go_wp2_with fail
      go_end0
      exact ⟨rfl, HS.out, HG.out⟩

set_option maxHeartbeats 1000000 in
theorem sortStable_any (lo g cap n m : Nat) (xs : List Int) (key : Int → Int) (b : Value) (w : World) (hlen : xs.length = n) (hn : n < 20) (HR : Hid (∀ x ∈ xs, 0 ≤ x ∧ x < m))
    (h : IntSl w lo (.slice (some ⟨g, 0, none⟩) n cap) xs) (HC : Hid (CmpK w g m 100 #[b] key)) :
    Calls Tryd.prog 99 #[.slice (some ⟨g, 0, none⟩) n cap, .func (.func 100) #[] #[b]] w fun e w' =>
      e = .returned (.tuple #[]) ∧ IntSl w' lo (.slice (some ⟨g, 0, none⟩) n cap) (isortTo key xs n) ∧ w.grownBy w' (some g) := by
  have HH := hide h
  clear h
  go_enter Tryd.func99, Tryd.ntmps99
  go_wp2_with fail
  refine (stableCmp_any lo g cap n m xs key b _ hlen hn HR HH.out HC).mono ?_
  rintro e w1 ⟨rfl, hS, hg⟩
  go_wp2_with fail
  go_end0
  exact ⟨rfl, hS, hg⟩

set_option maxHeartbeats 1000000 in
theorem sortBy_any (lo g cap n m gk : Nat) (xs : List Int) (key : Int → Int) (kb : Array Value) (w : World) (hlen : xs.length = n) (hn : n < 20) (HR : Hid (∀ x ∈ xs, 0 ≤ x ∧ x < m))
    (h : IntSl w lo (.slice (some ⟨g, 0, none⟩) n cap) xs) (heg : ∀ args w, (callFunc gk args).run Tryd.prog w = .ok (.enter gk args) w) (HK : Hid (KeyK w g m gk kb key)) :
    Calls Tryd.prog 67 #[.slice (some ⟨g, 0, none⟩) n cap, .func (.func gk) #[] kb] w fun e w' =>
      e = .returned (.tuple #[]) ∧ IntSl w' lo (.slice (some ⟨g, 0, none⟩) n cap) (isortTo key xs n) ∧ w.grownBy w' (some g) := by
  have hgl := (World.ownsRow.lt h g rfl).2
  have hs1 : IntSl (w.alloc (.cells #[.func (.func gk) #[] kb] 71)) lo (.slice (some ⟨g, 0, none⟩) n cap) xs := World.ownsRow.alloc h _
  have HS1 := hide hs1
  have HC := hide (sortBy1_any (w.alloc (.cells #[.func (.func gk) #[] kb] 71)) g m gk w.heap.size kb key heg (hide (HK.out.alloc _)) (by simp) (by omega))
  have hmf : ∀ (fn : Fn) (first cap : Array Value) (w : World), (Instr.makeFunc fn first cap).run Tryd.prog w = .ok (.func fn first cap) w := fun _ _ _ _ => rfl
  have HG := hide (World.grownBy_alloc w (.cells #[.func (.func gk) #[] kb] 71) (some g))
  clear h hs1 heg
  go_enter Tryd.func67, Tryd.ntmps67
  go_wp2_with fail
  refine (sortStable_any lo g cap n m xs key _ _ hlen hn HR HS1.out HC).mono ?_
  rintro e w1 ⟨rfl, hS, hg⟩
  have hg2 := HG.out.trans hg
  clear hmf
  go_wp2_with fail
  go_end0
  exact ⟨rfl, hS, hg2⟩
end Go.Proofs.YteloapholoechaaDoor
