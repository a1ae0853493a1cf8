/- ReadMath: texts cut at single bytes, numbers read, and that reading the text of an item gives the item.
   Conditions: none but those in each statement. -/
import Derived.Test.YtaelapimchmbcaaDoorText
import Derived.Lib.Split
import Derived.Lib.AtoiAll
namespace Go.Proofs.YtaelapimchmbcaaDoor
open Go.RowKit

/-- All pieces between the bytes c. -/
def splitC (c : UInt8) : List UInt8 → List (List UInt8)
  | [] => [[]]
  | x :: r => if x = c then [] :: splitC c r else (match splitC c r with | [] => [[x]] | y :: ys => (x :: y) :: ys)
theorem splitC_none {c : UInt8} : ∀ {a : List UInt8}, c ∉ a → splitC c a = [a]
  | [], _ => rfl
  | x :: r, h => by
    have hx : ¬ x = c := fun e => h (by rw [e]; simp)
    rw [splitC, if_neg hx, splitC_none (fun e => h (by simp [e]))]
theorem splitC_app {c : UInt8} {b : List UInt8} : ∀ {a : List UInt8}, c ∉ a → splitC c (a ++ c :: b) = a :: splitC c b
  | [], _ => by rw [List.nil_append, splitC, if_pos rfl]
  | x :: r, h => by
    have hx : ¬ x = c := fun e => h (by rw [e]; simp)
    rw [List.cons_append, splitC, if_neg hx, splitC_app (fun e => h (by simp [e]))]
theorem byte_parts {c : UInt8} : ∀ (l : List UInt8), c ∉ l ∨ ∃ a b, c ∉ a ∧ l = a ++ c :: b
  | [] => .inl (by simp)
  | x :: r => by
    by_cases hx : x = c
    · exact .inr ⟨[], r, by simp, by rw [hx]; rfl⟩
    · rcases byte_parts r with h | ⟨a, b, h, e⟩
      · exact .inl (fun e => by rcases List.mem_cons.1 e with e | e; exact hx e.symm; exact h e)
      · exact .inr ⟨x :: a, b, fun e => by rcases List.mem_cons.1 e with e | e; exact hx e.symm; exact h e, by rw [e]; rfl⟩
theorem index_none {c : UInt8} : ∀ {a : List UInt8}, c ∉ a → Lib.index a [c] = -1
  | [], _ => rfl
  | x :: r, h => by
    have hx : (c == x) = false := beq_false_of_ne (fun e => h (by rw [e]; simp))
    unfold Lib.index
    rw [index_none (fun e => h (by simp [e]))]
    simp [List.isPrefixOf, hx]
theorem index_app {c : UInt8} {b : List UInt8} : ∀ {a : List UInt8}, c ∉ a → Lib.index (a ++ c :: b) [c] = a.length
  | [], _ => by
    rw [List.nil_append]
    unfold Lib.index
    simp [List.isPrefixOf]
  | x :: r, h => by
    have hx : (c == x) = false := beq_false_of_ne (fun e => h (by rw [e]; simp))
    have h2 : ((r.length : Int) == -1) = false := by rw [beq_eq_false_iff_ne]; omega
    rw [List.cons_append]
    unfold Lib.index
    rw [index_app (fun e => h (by simp [e])), h2]
    simp [List.isPrefixOf, hx]
theorem cut_none {c : UInt8} {a : List UInt8} (h : c ∉ a) : Lib.cut a [c] = (a, [], false) := by
  unfold Lib.cut
  rw [index_none h, if_neg (by decide)]
theorem cut_app {c : UInt8} {a b : List UInt8} (h : c ∉ a) : Lib.cut (a ++ c :: b) [c] = (a, b, true) := by
  unfold Lib.cut
  rw [index_app h, if_pos (by omega), Int.toNat_natCast, List.take_left, List.length_singleton, ← List.drop_drop, List.drop_left]
  rfl
theorem split_one {c : UInt8} : ∀ (n : Nat) (l : List UInt8), l.length ≤ n → Lib.split l [c] = splitC c l := by
  intro n
  induction n with
  | zero =>
    intro l h
    obtain rfl : l = [] := List.length_eq_zero_iff.1 (by omega)
    unfold Lib.split
    rw [Lib.count_miss rfl]
    rfl
  | succ n ih =>
    intro l h
    rcases byte_parts (c := c) l with h1 | ⟨a, b, h1, rfl⟩
    · unfold Lib.split
      rw [Lib.count_miss (index_none h1), splitC_none h1]
      rfl
    · rw [splitC_app h1]
      have hi := index_app (b := b) h1
      unfold Lib.split
      rw [Lib.count_hit (by simp) hi, Nat.add_comm, Lib.splitK, hi, if_neg (by rw [beq_iff_eq]; omega), Int.toNat_natCast, Nat.add_zero, List.take_left]
      congr 1
      rw [List.length_singleton, ← List.drop_drop, List.drop_left]
      have := ih b (by rw [List.length_append, List.length_cons] at h; omega)
      unfold Lib.split at this
      exact this

/-! ### numbers -/
def numI (t : List UInt8) : Int := match Lib.atoiAll t with | .ok v => v | _ => -1
def readGo : Int → List UInt8 → Int
  | n, [] => n
  | n, c :: r => if c.toNat < 48 ∨ 57 < c.toNat then -1 else readGo (10 * n + ((c.toNat : Int) - 48)) r
def numS (t : List UInt8) : Int := if t.length < 1 ∨ 5 < t.length ∨ (1 < t.length ∧ t.head? = some 48) then -1 else readGo 0 t
theorem num_one : ∀ a : Fin 10, numI [UInt8.ofNat (48 + a.val)] = a.val ∧ numS [UInt8.ofNat (48 + a.val)] = a.val ∧ 48 ≤ (UInt8.ofNat (48 + a.val)).toNat ∧ (UInt8.ofNat (48 + a.val)).toNat ≤ 57 := by decide
theorem num_two : ∀ a b : Fin 10, a.val ≠ 0 → numI [UInt8.ofNat (48 + a.val), UInt8.ofNat (48 + b.val)] = 10 * a.val + b.val ∧ numS [UInt8.ofNat (48 + a.val), UInt8.ofNat (48 + b.val)] = 10 * a.val + b.val := by decide
theorem decD_num {n : Int} (h0 : 0 ≤ n) (h1 : n < 100) : numI (decD n) = n ∧ numS (decD n) = n ∧ ∀ c ∈ decD n, 48 ≤ c.toNat ∧ c.toNat ≤ 57 := by
  obtain ⟨m, rfl⟩ : ∃ m : Nat, n = m := ⟨n.toNat, by omega⟩
  unfold decD
  rw [Int.toNat_natCast]
  by_cases h : m < 10
  · rw [Lib.decDigits_one h]
    obtain ⟨a1, a2, a3, a4⟩ := num_one ⟨m, h⟩
    exact ⟨a1, a2, fun c hc => by obtain rfl : c = _ := List.mem_singleton.1 hc; exact ⟨a3, a4⟩⟩
  · rw [Lib.decDigits_two h (by omega)]
    obtain ⟨a1, a2⟩ := num_two ⟨m / 10, by omega⟩ ⟨m % 10, by omega⟩ (by show m / 10 ≠ 0; omega)
    obtain ⟨-, -, b1, b2⟩ := num_one ⟨m / 10, by omega⟩
    obtain ⟨-, -, c1, c2⟩ := num_one ⟨m % 10, by omega⟩
    refine ⟨?_, ?_, fun c hc => ?_⟩
    · have : (m : Int) = 10 * ((m / 10 : Nat) : Int) + ((m % 10 : Nat) : Int) := by omega
      rw [this]; exact a1
    · have : (m : Int) = 10 * ((m / 10 : Nat) : Int) + ((m % 10 : Nat) : Int) := by omega
      rw [this]; exact a2
    · rcases List.mem_cons.1 hc with rfl | hc
      · exact ⟨b1, b2⟩
      · obtain rfl : c = _ := List.mem_singleton.1 hc
        exact ⟨c1, c2⟩
theorem decD_free {n : Int} (h0 : 0 ≤ n) (h1 : n < 100) {c : UInt8} (hc : c.toNat < 48 ∨ 57 < c.toNat) : c ∉ decD n := fun h => by
  have := (decD_num h0 h1).2.2 c h
  omega

/-! ### items -/
def partI (q : List UInt8) : Part := ⟨numI (Lib.cut q [42]).1, numI (Lib.cut q [42]).2.1⟩
def partsI2 (t : List UInt8) : List Part := if t = [] then [] else (splitC 44 t).map partI
def itemI (s : List UInt8) : Item := ⟨numI (Lib.cut s [61]).1, partsI2 (Lib.cut (Lib.cut s [61]).2.1 [33]).1, numI (Lib.cut (Lib.cut s [61]).2.1 [33]).2.1⟩
def partsSGo : List (List UInt8) → Option (List Part)
  | [] => some []
  | q :: r => match splitC 42 q with
    | [o, m] => (partsSGo r).map (fun ps => ⟨numS o, numS m⟩ :: ps)
    | _ => none
def partsS2 (t : List UInt8) : Option (List Part) := if t = [] then some [] else partsSGo (splitC 44 t)
def itemS2 (s : List UInt8) : Option Item := match splitC 33 s with
  | [p, m] => (match splitC 61 p with
    | [y, j] => (partsS2 j).map (fun ps => ⟨numS y, ps, numS m⟩)
    | _ => none)
  | _ => none
def readI (s : List UInt8) : Option Item := if s ≠ [] ∧ itemTextL (itemI s) = s then some (itemI s) else none
def readS (s : List UInt8) : Option Item := match itemS2 s with
  | some x => if s ≠ [] ∧ itemTextL x = s then some x else none
  | none => none

theorem partText_at {p : Part} (h0 : 0 ≤ p.of ∧ p.of < 100) (h1 : 0 ≤ p.many ∧ p.many < 100) : partI (partText p) = p ∧ splitC 42 (partText p) = [decD p.of, decD p.many] ∧ ∀ c : UInt8, c.toNat < 48 ∨ 57 < c.toNat → c ≠ 42 → c ∉ partText p := by
  have ho := decD_free h0.1 h0.2 (c := 42) (by decide)
  have hm := decD_free h1.1 h1.2 (c := 42) (by decide)
  unfold partText
  refine ⟨?_, ?_, fun c hc hn h => ?_⟩
  · unfold partI
    rw [cut_app ho]
    show (⟨numI (decD p.of), numI (decD p.many)⟩ : Part) = p
    rw [(decD_num h0.1 h0.2).1, (decD_num h1.1 h1.2).1]
  · rw [splitC_app ho, splitC_none hm]
  · rcases List.mem_append.1 h with h | h
    · exact decD_free h0.1 h0.2 hc h
    · rcases List.mem_cons.1 h with h | h
      · exact hn h
      · exact decD_free h1.1 h1.2 hc h
theorem join_cons2 (x y : List UInt8) (r : List (List UInt8)) : Lib.join (x :: y :: r) [44] = x ++ 44 :: Lib.join (y :: r) [44] := by
  simp [Lib.join, List.intercalate]
theorem split_join : ∀ {ps : List Part}, ps ≠ [] → (∀ p ∈ ps, (0 ≤ p.of ∧ p.of < 100) ∧ 0 ≤ p.many ∧ p.many < 100) → splitC 44 (Lib.join (ps.map partText) [44]) = ps.map partText
  | [], h, _ => absurd rfl h
  | [p], _, hp => by
    obtain ⟨h0, h1⟩ := hp p (by simp)
    rw [List.map_cons, List.map_nil, Lib.join_one, splitC_none ((partText_at h0 h1).2.2 44 (by decide) (by decide))]
  | p :: q :: r, _, hp => by
    obtain ⟨h0, h1⟩ := hp p (by simp)
    rw [List.map_cons, List.map_cons, join_cons2, splitC_app ((partText_at h0 h1).2.2 44 (by decide) (by decide)), ← List.map_cons, split_join (by simp) (fun p hp' => hp p (by simp [List.mem_cons.1 hp']))]
theorem join_free : ∀ {ps : List Part}, (∀ p ∈ ps, (0 ≤ p.of ∧ p.of < 100) ∧ 0 ≤ p.many ∧ p.many < 100) → ∀ c : UInt8, c.toNat < 48 ∨ 57 < c.toNat → c ≠ 42 → c ≠ 44 → c ∉ Lib.join (ps.map partText) [44]
  | [], _, c, _, _, _ => by simp [Lib.join, List.intercalate]
  | [p], hp, c, hc, h1, _ => by
    obtain ⟨a, b⟩ := hp p (by simp)
    rw [List.map_cons, List.map_nil, Lib.join_one]
    exact (partText_at a b).2.2 c hc h1
  | p :: q :: r, hp, c, hc, h1, h2 => by
    obtain ⟨a, b⟩ := hp p (by simp)
    rw [List.map_cons, List.map_cons, join_cons2]
    intro h
    rcases List.mem_append.1 h with h | h
    · exact (partText_at a b).2.2 c hc h1 h
    · rcases List.mem_cons.1 h with h | h
      · exact h2 h
      · rw [← List.map_cons] at h
        exact join_free (fun p hp' => hp p (by simp [List.mem_cons.1 hp'])) c hc h1 h2 h
theorem join_some {ps : List Part} (h : ps ≠ []) : Lib.join (ps.map partText) [44] ≠ [] := by
  cases ps with
  | nil => exact absurd rfl h
  | cons p r =>
    rw [List.map_cons, Lib.join_cons]
    unfold partText
    simp
theorem partsSGo_map : ∀ {ps : List Part}, (∀ p ∈ ps, (0 ≤ p.of ∧ p.of < 100) ∧ 0 ≤ p.many ∧ p.many < 100) → partsSGo (ps.map partText) = some ps
  | [], _ => rfl
  | p :: r, hp => by
    obtain ⟨a, b⟩ := hp p (by simp)
    rw [List.map_cons, partsSGo, (partText_at a b).2.1, partsSGo_map (fun p hp' => hp p (by simp [hp']))]
    show some (⟨numS (decD p.of), numS (decD p.many)⟩ :: r) = some (p :: r)
    rw [(decD_num a.1 a.2).2.1, (decD_num b.1 b.2).2.1]
theorem text_some {x : Item} (h : itemTextL x ≠ []) : itemOk x 5 = true := by
  cases e : itemOk x 5 with
  | true => rfl
  | false =>
    refine absurd ?_ h
    unfold itemTextL
    rw [e]
    rfl
/-- Reading the text of an item gives the item. -/
theorem read_text {x : Item} (h : itemOk x 5 = true) : itemI (itemTextL x) = x ∧ itemS2 (itemTextL x) = some x := by
  obtain ⟨⟨y0, y1, m0, m1, -⟩, hp⟩ := itemOk_at h
  have hps : ∀ p ∈ x.parts, (0 ≤ p.of ∧ p.of < 100) ∧ 0 ≤ p.many ∧ p.many < 100 := fun p hp' => by have := hp p hp'; omega
  have ht : itemTextL x = decD x.yield ++ 61 :: (Lib.join (x.parts.map partText) [44] ++ 33 :: decD x.marks) := by unfold itemTextL; rw [if_pos h]
  have hy := decD_num y0 (show x.yield < 100 by omega)
  have hm := decD_num m0 (show x.marks < 100 by omega)
  have f61 := decD_free y0 (show x.yield < 100 by omega) (c := 61) (by decide)
  have f33 := decD_free y0 (show x.yield < 100 by omega) (c := 33) (by decide)
  have g33 := decD_free m0 (show x.marks < 100 by omega) (c := 33) (by decide)
  have j33 := join_free hps 33 (by decide) (by decide) (by decide)
  have j61 := join_free hps 61 (by decide) (by decide) (by decide)
  rw [ht]
  constructor
  · unfold itemI
    rw [cut_app f61]
    show (⟨numI (decD x.yield), partsI2 (Lib.cut (Lib.join (x.parts.map partText) [44] ++ 33 :: decD x.marks) [33]).1, numI (Lib.cut (Lib.join (x.parts.map partText) [44] ++ 33 :: decD x.marks) [33]).2.1⟩ : Item) = x
    rw [cut_app j33]
    show (⟨numI (decD x.yield), partsI2 (Lib.join (x.parts.map partText) [44]), numI (decD x.marks)⟩ : Item) = x
    have hpi : partsI2 (Lib.join (x.parts.map partText) [44]) = x.parts := by
      unfold partsI2
      by_cases e : x.parts = []
      · rw [e, if_pos (by rfl)]
      · rw [if_neg (join_some e), split_join e hps, List.map_map]
        conv => rhs; rw [← List.map_id x.parts]
        refine List.map_congr_left (fun p hp' => ?_)
        obtain ⟨a, b⟩ := hps p hp'
        exact (partText_at a b).1
    rw [hy.1, hm.1, hpi]
  · unfold itemS2
    rw [show decD x.yield ++ 61 :: (Lib.join (x.parts.map partText) [44] ++ 33 :: decD x.marks) = (decD x.yield ++ 61 :: Lib.join (x.parts.map partText) [44]) ++ 33 :: decD x.marks from by rw [List.append_assoc]; rfl]
    have p33 : (33 : UInt8) ∉ decD x.yield ++ 61 :: Lib.join (x.parts.map partText) [44] := fun e => by
      rcases List.mem_append.1 e with e | e
      · exact f33 e
      · rcases List.mem_cons.1 e with e | e
        · exact absurd e (by decide)
        · exact j33 e
    rw [splitC_app p33, splitC_none g33]
    show (match splitC 61 (decD x.yield ++ 61 :: Lib.join (x.parts.map partText) [44]) with | [y, j] => (partsS2 j).map (fun ps => (⟨numS y, ps, numS (decD x.marks)⟩ : Item)) | _ => none) = some x
    rw [splitC_app f61, splitC_none j61]
    show (partsS2 (Lib.join (x.parts.map partText) [44])).map (fun ps => (⟨numS (decD x.yield), ps, numS (decD x.marks)⟩ : Item)) = some x
    have hpi : partsS2 (Lib.join (x.parts.map partText) [44]) = some x.parts := by
      unfold partsS2
      by_cases e : x.parts = []
      · rw [e, if_pos (by rfl)]
      · rw [if_neg (join_some e), split_join e hps, partsSGo_map hps]
    rw [hpi, hy.2.1, hm.2.1]
    rfl
/-- The program's reading and the model's come to the same. -/
theorem read_same (s : List UInt8) : readS s = readI s := by
  unfold readS readI
  by_cases h : s ≠ [] ∧ itemTextL (itemI s) = s
  · rw [if_pos h]
    have hx := text_some (x := itemI s) (by rw [h.2]; exact h.1)
    have := (read_text hx).2
    rw [h.2] at this
    rw [this]
    show (if s ≠ [] ∧ itemTextL (itemI s) = s then some (itemI s) else none) = _
    rw [if_pos h]
  · rw [if_neg h]
    cases e : itemS2 s with
    | none => rfl
    | some x =>
      show (if s ≠ [] ∧ itemTextL x = s then some x else none) = none
      refine if_neg (fun h2 => h ⟨h2.1, ?_⟩)
      have hx := text_some (x := x) (by rw [h2.2]; exact h2.1)
      have h3 := (read_text hx).1
      rw [h2.2] at h3
      rw [h3]
      exact h2.2
end Go.Proofs.YtaelapimchmbcaaDoor
