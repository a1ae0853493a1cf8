/- GuestMath3: the dish for the most guests, quarrels and seats; plain mathematics.
   Conditions: sets are below 64. -/
import Derived.Test.YthbainbgimbjeaaGuestMath2
import Derived.Test.YthbainbgimbjeaaOrders0
namespace Go.Proofs.Ythbainbgimbjeaa
open Go.RowKit

theorem or_drop_all : ∀ x y : Fin 64, sz (orI x.val y.val) = sz x.val + sz (dropI y.val x.val) := by decide +kernel
theorem sz_or {x y : Int} (h0 : 0 ≤ x) (h1 : x < 64) (k0 : 0 ≤ y) (k1 : y < 64) : sz (orI x y) = sz x + sz (dropI y x) := by
  have := or_drop_all ⟨x.toNat, by omega⟩ ⟨y.toNat, by omega⟩
  simpa only [Int.toNat_of_nonneg h0, Int.toNat_of_nonneg k0] using this

def bestGo (fed : Int) : Int → List Int → Int → Int → Int × Int
  | _, [], b, mo => (b, mo)
  | k, e :: r, b, mo => if mo < sz (dropI e fed) then bestGo fed (k + 1) r k (sz (dropI e fed)) else bestGo fed (k + 1) r b mo
def bestL (m : List Int) (fed : Int) : Int := (bestGo fed 0 m (-1) 0).1

theorem bestGo_at {fed : Int} : ∀ (r : List Int) (k b mo : Int) (P : Int → Prop), P b → (∀ (j : Nat) e, r[j]? = some e → mo < sz (dropI e fed) → P (k + j)) → 0 ≤ mo → P (bestGo fed k r b mo).1
  | [], k, b, mo, P, hb, _, _ => hb
  | e :: r, k, b, mo, P, hb, h, hm => by
    unfold bestGo
    split
    · rename_i hlt
      refine bestGo_at r (k + 1) k _ P (by simpa using h 0 e rfl hlt) (fun j e' he' hl => ?_) (by omega)
      have := h (j + 1) e' (by simpa using he') (by omega)
      rwa [show k + ((j + 1 : Nat) : Int) = k + 1 + j from by omega] at this
    · refine bestGo_at r (k + 1) b mo P hb (fun j e' he' hl => ?_) hm
      have := h (j + 1) e' (by simpa using he') hl
      rwa [show k + ((j + 1 : Nat) : Int) = k + 1 + j from by omega] at this

theorem bestL_at (m : List Int) (fed : Int) : bestL m fed = -1 ∨ ∃ (j : Nat) (e : Int), m[j]? = some e ∧ 0 < sz (dropI e fed) ∧ bestL m fed = j := by
  unfold bestL
  refine bestGo_at m 0 (-1) 0 (fun b => b = -1 ∨ ∃ (j : Nat) (e : Int), m[j]? = some e ∧ 0 < sz (dropI e fed) ∧ b = j) (.inl rfl) (fun j e he hl => .inr ⟨j, e, he, hl, by omega⟩) (by omega)

def greedyGo (m : List Int) : Nat → Int → List Int
  | 0, _ => []
  | f + 1, fed => if bestL m fed < 0 then [] else bestL m fed :: greedyGo m f (orI fed (m.getD (bestL m fed).toNat 0))
def greedyL (g : Int) (m : List Int) : List Int := if menuOk g m = true then greedyGo m 7 0 else []

theorem greedyGo_len (m : List Int) : ∀ f fed, (greedyGo m f fed).length ≤ f
  | 0, _ => Nat.le_refl _
  | f + 1, fed => by
    unfold greedyGo
    split
    · simp
    · simpa using greedyGo_len m f _
theorem greedyL_len (g : Int) (m : List Int) : (greedyL g m).length ≤ 1048576 := by
  unfold greedyL
  split
  · have := greedyGo_len m 7 0
    omega
  · simp

def quarBad (q : List Int) (a b : Nat) : Bool := hasB (q.getD a 0) b && (decide (b = a) || !hasB (q.getD b 0) a)
def quarFine (q : List Int) (a : Nat) : Bool := allN q.length (fun b => !quarBad q a b)
def quarOk (g : Int) (q : List Int) : Bool := inR g 0 6 && ((decide ((q.length : Int) = g) && rangeOk (full g) q) && allN q.length (quarFine q))

theorem quarOk_g {g : Int} {q : List Int} (h : quarOk g q = true) : 0 ≤ g ∧ g ≤ 6 ∧ (q.length : Int) = g := by
  unfold quarOk at h
  simp only [Bool.and_eq_true, inR_iff, decide_eq_true_eq] at h
  exact ⟨h.1.1, h.1.2, h.2.1.1⟩
theorem quarOk_range {g : Int} {q : List Int} (h : quarOk g q = true) : rangeOk (full g) q = true := by
  unfold quarOk at h
  simp only [Bool.and_eq_true] at h
  exact h.2.1.2
theorem quarOk_at {g : Int} {q : List Int} (h : quarOk g q = true) {x : Int} (hx : x ∈ q) : 0 ≤ x ∧ x ≤ full g ∧ x < 64 := by
  have hg := quarOk_g h
  have hf := full_range hg.1 hg.2.1
  have := rangeOk_mem (quarOk_range h) hx
  omega
theorem quarOk_getD {g : Int} {q : List Int} (h : quarOk g q = true) (k : Nat) : 0 ≤ q.getD k 0 ∧ q.getD k 0 ≤ full g ∧ q.getD k 0 < 64 := by
  have hg := quarOk_g h
  have hf := full_range hg.1 hg.2.1
  by_cases hk : k < q.length
  · rw [show q.getD k 0 = q[k] from by simp [hk]]
    exact quarOk_at h (List.getElem_mem hk)
  · rw [show q.getD k 0 = 0 from by simp [hk]]
    omega
theorem quarOk_self {g : Int} {q : List Int} (h : quarOk g q = true) {a : Nat} (ha : a < q.length) : hasB (q.getD a 0) a = false := by
  unfold quarOk at h
  simp only [Bool.and_eq_true] at h
  have := allN_iff.1 (allN_iff.1 h.2.2 a ha) a ha
  unfold quarBad at this
  cases hh : hasB (q.getD a 0) a with
  | false => rfl
  | true => rw [hh] at this; simp at this
theorem quarOk_sym {g : Int} {q : List Int} (h : quarOk g q = true) {a b : Nat} (ha : a < q.length) (hb : b < q.length) (hh : hasB (q.getD a 0) b = true) : hasB (q.getD b 0) a = true := by
  unfold quarOk at h
  simp only [Bool.and_eq_true] at h
  have := allN_iff.1 (allN_iff.1 h.2.2 a ha) b hb
  unfold quarBad at this
  rw [hh] at this
  cases h2 : hasB (q.getD b 0) a with
  | true => rfl
  | false => rw [h2] at this; simp at this

/-- A row as the reference model looks at it. -/
def quarRow (g : Int) (q : List Int) (a : Nat) : Bool :=
  (inR (q.getD a 0) 0 (full g) && !hasB (q.getD a 0) a) && allN a (fun b => inR (q.getD b 0) 0 (full g) && (hasB (q.getD a 0) b == hasB (q.getD b 0) a))

theorem rangeOk_iff {hi : Int} {q : List Int} : rangeOk hi q = true ↔ ∀ a, a < q.length → inR (q.getD a 0) 0 hi = true := by
  unfold rangeOk
  rw [List.all_eq_true]
  constructor
  · intro h a ha
    rw [show q.getD a 0 = q[a] from by simp [ha]]
    exact h _ (List.getElem_mem ha)
  · intro h x hx
    obtain ⟨a, ha⟩ := List.getElem?_of_mem hx
    have hal := (List.getElem?_eq_some_iff.1 ha).1
    have := h a hal
    rwa [getD_at ha] at this

theorem quarOk_rows {g : Int} {q : List Int} (hg : inR g 0 6 = true) (hl : (q.length : Int) = g) : quarOk g q = allN q.length (quarRow g q) := by
  unfold quarOk
  rw [hg, decide_eq_true hl, Bool.true_and, Bool.true_and, Bool.eq_iff_iff, Bool.and_eq_true, allN_iff, allN_iff, rangeOk_iff]
  constructor
  · intro ⟨hr, hs⟩ a ha
    unfold quarRow
    rw [Bool.and_eq_true, Bool.and_eq_true, allN_iff]
    have h1 := hs a ha
    unfold quarFine at h1
    rw [allN_iff] at h1
    refine ⟨⟨hr a ha, ?_⟩, fun b hb => ?_⟩
    · have := h1 a ha
      unfold quarBad at this
      cases hh : hasB (q.getD a 0) a <;> rw [hh] at this <;> simp_all
    · rw [Bool.and_eq_true]
      refine ⟨hr b (by omega), ?_⟩
      have h2 := h1 b (by omega)
      have h3 := hs b (by omega)
      unfold quarFine at h3
      rw [allN_iff] at h3
      have h4 := h3 a ha
      unfold quarBad at h2 h4
      rw [decide_eq_false (by omega : ¬ b = a)] at h2
      rw [decide_eq_false (by omega : ¬ a = b)] at h4
      cases x1 : hasB (q.getD a 0) b <;> cases x2 : hasB (q.getD b 0) a <;> simp_all
  · intro h
    refine ⟨fun a ha => ?_, fun a ha => ?_⟩
    · have := h a ha
      unfold quarRow at this
      rw [Bool.and_eq_true, Bool.and_eq_true] at this
      exact this.1.1
    · unfold quarFine
      rw [allN_iff]
      intro b hb
      have h1 := h a ha
      have h2 := h b hb
      unfold quarRow at h1 h2
      rw [Bool.and_eq_true, Bool.and_eq_true, allN_iff] at h1 h2
      unfold quarBad
      rcases Nat.lt_trichotomy a b with e | e | e
      · have := h2.2 a e
        rw [decide_eq_false (by omega : ¬ b = a)]
        cases x1 : hasB (q.getD a 0) b <;> cases x2 : hasB (q.getD b 0) a <;> simp_all
      · subst e
        have := h1.1.2
        cases x1 : hasB (q.getD a 0) a <;> simp_all
      · have := h1.2 b e
        rw [decide_eq_false (by omega : ¬ b = a)]
        cases x1 : hasB (q.getD a 0) b <;> cases x2 : hasB (q.getD b 0) a <;> simp_all

def seatBad (q s : List Int) (a b : Nat) : Bool := (s.getD b 0 == s.getD a 0) && hasB (q.getD a 0) b
def seatFine (q s : List Int) (a : Nat) : Bool := allN a (fun b => !seatBad q s a b)
def seatsOkL (g : Int) (q s : List Int) : Bool := quarOk g q && ((decide ((s.length : Int) = g) && rangeOk (g - 1) s) && allN s.length (seatFine q s))
def seatRow (g : Int) (q s : List Int) (a : Nat) : Bool := inR (s.getD a 0) 0 (g - 1) && seatFine q s a

theorem seatsOkL_rows {g : Int} {q s : List Int} (hq : quarOk g q = true) (hl : (s.length : Int) = g) : seatsOkL g q s = allN s.length (seatRow g q s) := by
  unfold seatsOkL
  rw [hq, decide_eq_true hl, Bool.true_and, Bool.true_and, Bool.eq_iff_iff, Bool.and_eq_true, allN_iff, allN_iff, rangeOk_iff]
  unfold seatRow
  constructor
  · intro ⟨h1, h2⟩ a ha
    rw [h1 a ha, h2 a ha]; rfl
  · intro h
    refine ⟨fun a ha => ?_, fun a ha => ?_⟩
    · have := h a ha
      rw [Bool.and_eq_true] at this
      exact this.1
    · have := h a ha
      rw [Bool.and_eq_true] at this
      exact this.2

/-- Does somebody at the table t quarrel with a guest? -/
def clash (qa : Int) (s : List Int) (t : Int) : Bool := (List.range s.length).any (fun b => (s.getD b 0 == t) && hasB qa b)
def findT (qa : Int) (s : List Int) : Nat → Int → Int
  | 0, t => t
  | f + 1, t => if clash qa s t = true then findT qa s f (t + 1) else t
def tableOf (qa : Int) (s : List Int) : Int := findT qa s s.length 0
def seatsTo (q : List Int) : Nat → List Int
  | 0 => []
  | a + 1 => seatsTo q a ++ [tableOf (q.getD a 0) (seatsTo q a)]
def seatsFirstL (g : Int) (q : List Int) : List Int := if quarOk g q = true then seatsTo q q.length else []

theorem seatsTo_len (q : List Int) : ∀ a, (seatsTo q a).length = a
  | 0 => rfl
  | a + 1 => by simp [seatsTo, seatsTo_len q a]
theorem findT_range (qa : Int) (s : List Int) : ∀ (f : Nat) (t : Int), t ≤ findT qa s f t ∧ findT qa s f t ≤ t + f
  | 0, t => by simp [findT]
  | f + 1, t => by
    unfold findT
    split
    · have := findT_range qa s f (t + 1)
      omega
    · omega
theorem tableOf_range (qa : Int) (s : List Int) : 0 ≤ tableOf qa s ∧ tableOf qa s ≤ s.length := by
  have := findT_range qa s s.length 0
  unfold tableOf
  omega
theorem seatsTo_at (q : List Int) : ∀ a b, b < a → 0 ≤ (seatsTo q a).getD b 0 ∧ (seatsTo q a).getD b 0 ≤ b
  | 0, b, h => by omega
  | a + 1, b, h => by
    unfold seatsTo
    by_cases e : b < a
    · have := seatsTo_at q a b e
      rwa [List.getD_eq_getElem?_getD, List.getElem?_append_left (by rw [seatsTo_len]; exact e), ← List.getD_eq_getElem?_getD]
    · have : b = a := by omega
      subst this
      have hr := tableOf_range (q.getD b 0) (seatsTo q b)
      rw [seatsTo_len] at hr
      rw [List.getD_eq_getElem?_getD, List.getElem?_append_right (by rw [seatsTo_len]; exact Nat.le_refl _), seatsTo_len]
      simpa using hr
theorem clash_iff {qa : Int} {s : List Int} {t : Int} : clash qa s t = true ↔ ∃ b, b < s.length ∧ s.getD b 0 = t ∧ hasB qa b = true := by
  unfold clash
  simp [List.any_eq_true]
/-- The table that is found is the first one without a quarrel. -/
theorem findT_of {qa : Int} {s : List Int} : ∀ (n f : Nat) (t : Int), n ≤ f → (∀ i : Nat, i < n → clash qa s (t + i) = true) → (n < f → clash qa s (t + n) = false) → findT qa s f t = t + n
  | 0, 0, t, _, _, _ => by simp [findT]
  | 0, f + 1, t, _, _, h => by
    unfold findT
    have := h (by omega)
    simp only [Int.natCast_zero, Int.add_zero] at this
    rw [if_neg (by rw [this]; decide)]
    simp
  | n + 1, 0, t, h, _, _ => by omega
  | n + 1, f + 1, t, h, h1, h2 => by
    unfold findT
    have := h1 0 (by omega)
    simp only [Int.natCast_zero, Int.add_zero] at this
    rw [if_pos this, findT_of n f (t + 1) (by omega) (fun i hi => by have := h1 (i + 1) (by omega); rwa [show t + ((i + 1 : Nat) : Int) = t + 1 + i from by omega] at this)
      (fun hn => by have := h2 (by omega); rwa [show t + ((n + 1 : Nat) : Int) = t + 1 + n from by omega] at this)]
    omega
theorem clash_end (q : List Int) (qa : Int) (a : Nat) : clash qa (seatsTo q a) a = false := by
  cases h : clash qa (seatsTo q a) a with
  | false => rfl
  | true =>
    obtain ⟨b, hb, h1, _⟩ := clash_iff.1 h
    rw [seatsTo_len] at hb
    have := seatsTo_at q a b hb
    omega
/-- As both the program and the model find it. -/
theorem tableOf_of {q : List Int} {qa : Int} {a n : Nat} (hn : n ≤ a) (h1 : ∀ i : Nat, i < n → clash qa (seatsTo q a) i = true) (h2 : clash qa (seatsTo q a) n = false) : tableOf qa (seatsTo q a) = n := by
  unfold tableOf
  rw [findT_of n _ 0 (by rw [seatsTo_len]; exact hn) (fun i hi => by rw [Int.zero_add]; exact h1 i hi) (fun _ => by rw [Int.zero_add]; exact h2)]
  omega
theorem seatsFirstL_len (g : Int) (q : List Int) : (seatsFirstL g q).length ≤ q.length := by
  unfold seatsFirstL
  split
  · rw [seatsTo_len]; exact Nat.le_refl _
  · simp

/-- How many different numbers a list has. -/
def manyGo (seen : List Int) : List Int → Int
  | [] => 0
  | x :: r => (if hasI seen x then 0 else 1) + manyGo (seen ++ [x]) r
end Go.Proofs.Ythbainbgimbjeaa
