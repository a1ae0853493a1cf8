/- GrpMath: into how many groups that are even together people can be divided: colours, groups that are put together or taken apart; plain mathematics.
   Conditions: none beyond each statement's own.
   GrpMath2: sets of people as numbers, the table of groups, the fewest payments; plain mathematics.
   Conditions: none beyond each statement's own.
   GrpMath3: the fewest payments: no payments are fewer, and so few settle everything; plain mathematics.
   Conditions: there are at most 1048576 payments. -/
import Derived.Test.YtgagfaajilbmmaaDoorFastMath
namespace Go.Proofs.YtgagfaajilbmmaaDoor

/-- How many different colours. -/
def gDist : List Nat → Nat
  | [] => 0
  | c :: cs => gDist cs + (if c ∈ cs then 0 else 1)
/-- The sum of what has a colour. -/
def gSum (c : Nat) : List Int → List Nat → Int
  | x :: xs, d :: ds => (if d = c then x else 0) + gSum c xs ds
  | _, _ => 0
def GCol (ys : List Int) (cs : List Nat) : Prop := cs.length = ys.length ∧ ∀ c, gSum c ys cs = 0
/-- ys can be divided into k groups or more. -/
def GMany (ys : List Int) (k : Nat) : Prop := ∃ cs, GCol ys cs ∧ k ≤ gDist cs

theorem GMany.less {ys : List Int} {k j : Nat} (h : GMany ys k) (hj : j ≤ k) : GMany ys j := by
  obtain ⟨cs, a, b⟩ := h
  exact ⟨cs, a, by omega⟩
theorem gMany_nil {k : Nat} : GMany [] k ↔ k = 0 := by
  constructor
  · rintro ⟨cs, ⟨a, _⟩, b⟩
    have : cs = [] := List.eq_nil_of_length_eq_zero (by simpa using a)
    subst this
    simpa [gDist] using b
  · rintro rfl
    exact ⟨[], ⟨rfl, fun _ => rfl⟩, Nat.le_refl _⟩
theorem gDist_le : ∀ cs : List Nat, gDist cs ≤ cs.length
  | [] => Nat.le_refl _
  | c :: cs => by
    have := gDist_le cs
    unfold gDist
    rw [List.length_cons]
    split <;> omega
theorem gMany_len {ys : List Int} {k : Nat} (h : GMany ys k) : k ≤ ys.length := by
  obtain ⟨cs, ⟨a, _⟩, b⟩ := h
  have := gDist_le cs
  omega
theorem gDist_pos {cs : List Nat} (h : cs ≠ []) : 1 ≤ gDist cs := by
  induction cs with
  | nil => exact absurd rfl h
  | cons c cs ih =>
    unfold gDist
    by_cases hm : c ∈ cs
    · have := ih (by intro e; rw [e] at hm; simp at hm)
      omega
    · rw [if_neg hm]
      omega
theorem gSum_none {c : Nat} : ∀ (ys : List Int) (cs : List Nat), c ∉ cs → gSum c ys cs = 0
  | [], _, _ => by unfold gSum; rfl
  | x :: r, [], _ => by unfold gSum; rfl
  | x :: r, d :: ds, h => by
    simp only [List.mem_cons, not_or] at h
    unfold gSum
    rw [if_neg (fun e => h.1 e.symm), gSum_none r ds h.2]
    rfl

/-- One colour for all. -/
theorem gSum_one : ∀ (ys : List Int), gSum 0 ys (ys.map fun _ => 0) = sumL ys
  | [] => by simp [gSum, sumL]
  | x :: r => by simp [gSum, sumL, gSum_one r]
theorem gDist_one : ∀ (ys : List Int), ys ≠ [] → gDist (ys.map fun _ => 0) = 1
  | [], h => absurd rfl h
  | [x], _ => by simp [gDist]
  | x :: y :: r, _ => by
    have ih := gDist_one (y :: r) (by simp)
    rw [List.map_cons, gDist, ih]
    simp
theorem gMany_one {ys : List Int} (h0 : sumL ys = 0) (hn : ys ≠ []) : GMany ys 1 := by
  refine ⟨ys.map fun _ => 0, ⟨by simp, fun c => ?_⟩, by rw [gDist_one ys hn]; exact Nat.le_refl _⟩
  by_cases hc : c = 0
  · subst hc
    rw [gSum_one, h0]
  · exact gSum_none _ _ (by simp; omega)

/-- zs is what as and bs are together, in an order. -/
def GShuf : List Int → List Int → List Int → Prop
  | [], us, bs => us = [] ∧ bs = []
  | x :: zs, us, bs => (∃ a', us = x :: a' ∧ GShuf zs a' bs) ∨ (∃ b', bs = x :: b' ∧ GShuf zs us b')
theorem GShuf.sum : ∀ {zs us bs : List Int}, GShuf zs us bs → sumL zs = sumL us + sumL bs
  | [], us, bs, h => by
    obtain ⟨rfl, rfl⟩ := h
    rfl
  | x :: zs, us, bs, h => by
    rcases h with ⟨a', rfl, h⟩ | ⟨b', rfl, h⟩
    · have := GShuf.sum h
      simp only [sumL]
      omega
    · have := GShuf.sum h
      simp only [sumL]
      omega
theorem GShuf.len : ∀ {zs us bs : List Int}, GShuf zs us bs → zs.length = us.length + bs.length
  | [], us, bs, h => by
    obtain ⟨rfl, rfl⟩ := h
    rfl
  | x :: zs, us, bs, h => by
    rcases h with ⟨a', rfl, h⟩ | ⟨b', rfl, h⟩
    · have := GShuf.len h
      simp only [List.length_cons]
      omega
    · have := GShuf.len h
      simp only [List.length_cons]
      omega
theorem gJoin : ∀ {zs us bs : List Int}, GShuf zs us bs → ∀ (p q : List Nat), p.length = us.length → q.length = bs.length → ∃ cs, cs.length = zs.length ∧ (∀ c, gSum c zs cs = gSum c us p + gSum c bs q) ∧ (∀ c, c ∈ cs ↔ c ∈ p ∨ c ∈ q) ∧ ((∀ c ∈ p, c ∉ q) → gDist cs = gDist p + gDist q)
  | [], us, bs, h, p, q, hp, hq => by
    obtain ⟨rfl, rfl⟩ := h
    obtain rfl : p = [] := List.eq_nil_of_length_eq_zero hp
    obtain rfl : q = [] := List.eq_nil_of_length_eq_zero hq
    exact ⟨[], rfl, fun _ => rfl, fun c => by simp, fun _ => rfl⟩
  | x :: zs, us, bs, h, p, q, hp, hq => by
    rcases h with ⟨a', rfl, h⟩ | ⟨b', rfl, h⟩
    · match p, hp with
      | d :: p', hp =>
        obtain ⟨cs, h1, h2, h3, h4⟩ := gJoin h p' q (by simpa using hp) hq
        refine ⟨d :: cs, by simp [h1], fun c => ?_, fun c => by simp [h3, or_assoc], fun hd => ?_⟩
        · rw [gSum, gSum, h2]
          omega
        · have hd' : ∀ c ∈ p', c ∉ q := fun c hc => hd c (by simp [hc])
          have hdq := hd d (by simp)
          rw [gDist, gDist, h4 hd']
          have e : d ∈ cs ↔ d ∈ p' := by rw [h3]; simp [hdq]
          by_cases hm : d ∈ p'
          · rw [if_pos hm, if_pos (e.2 hm)]
            omega
          · rw [if_neg hm, if_neg (fun hh => hm (e.1 hh))]
            omega
    · match q, hq with
      | d :: q', hq =>
        obtain ⟨cs, h1, h2, h3, h4⟩ := gJoin h p q' hp (by simpa using hq)
        refine ⟨d :: cs, by simp [h1], fun c => ?_, fun c => ?_, fun hd => ?_⟩
        · rw [gSum, gSum, h2]
          omega
        · simp only [List.mem_cons, h3]
          constructor
          · rintro (a | a | a) <;> simp [a]
          · rintro (a | a | a) <;> simp [a]
        · have hd' : ∀ c ∈ p, c ∉ q' := fun c hc hq => hd c hc (by simp [hq])
          have hdq : d ∉ p := fun hp => hd d hp (by simp)
          rw [gDist, gDist, h4 hd']
          have e : d ∈ cs ↔ d ∈ q' := by rw [h3]; simp [hdq]
          by_cases hm : d ∈ q'
          · rw [if_pos hm, if_pos (e.2 hm)]
            omega
          · rw [if_neg hm, if_neg (fun hh => hm (e.1 hh))]
            omega
theorem gDist_shift (M : Nat) : ∀ cs : List Nat, gDist (cs.map (· + M)) = gDist cs
  | [] => rfl
  | c :: cs => by
    rw [List.map_cons, gDist, gDist, gDist_shift M cs]
    have e : c + M ∈ cs.map (· + M) ↔ c ∈ cs := by
      rw [List.mem_map]
      constructor
      · rintro ⟨a, ha, hb⟩
        obtain rfl : a = c := by omega
        exact ha
      · intro h
        exact ⟨c, h, rfl⟩
    by_cases hm : c ∈ cs
    · rw [if_pos hm, if_pos (e.2 hm)]
    · rw [if_neg hm, if_neg (fun hh => hm (e.1 hh))]
theorem gSum_shift (M c : Nat) : ∀ (ys : List Int) (cs : List Nat), gSum (c + M) ys (cs.map (· + M)) = gSum c ys cs
  | [], _ => by unfold gSum; rfl
  | x :: r, [] => by simp [gSum]
  | x :: r, d :: ds => by
    rw [List.map_cons, gSum, gSum, gSum_shift M c r ds]
    by_cases h : d = c
    · rw [if_pos h, if_pos (by omega)]
    · rw [if_neg h, if_neg (by omega)]
theorem gBound : ∀ cs : List Nat, ∃ M, ∀ c ∈ cs, c < M
  | [] => ⟨0, by simp⟩
  | c :: cs => by
    obtain ⟨M, h⟩ := gBound cs
    refine ⟨M + c + 1, fun d hd => ?_⟩
    rcases List.mem_cons.1 hd with rfl | hd
    · omega
    · have := h d hd
      omega
theorem GMany.join {zs us bs : List Int} {j k : Nat} (h : GShuf zs us bs) (ha : GMany us j) (hb : GMany bs k) : GMany zs (j + k) := by
  obtain ⟨p, ⟨hp, hps⟩, hpk⟩ := ha
  obtain ⟨q, ⟨hq, hqs⟩, hqk⟩ := hb
  obtain ⟨M, hM⟩ := gBound p
  obtain ⟨cs, h1, h2, h3, h4⟩ := gJoin h p (q.map (· + M)) hp (by simpa using hq)
  have hd : ∀ c ∈ p, c ∉ q.map (· + M) := fun c hc hm => by
    obtain ⟨a, _, e⟩ := List.mem_map.1 hm
    have := hM c hc
    omega
  refine ⟨cs, ⟨h1, fun c => ?_⟩, by rw [h4 hd, gDist_shift]; omega⟩
  rw [h2, hps]
  by_cases hc : M ≤ c
  · obtain ⟨e, rfl⟩ : ∃ e, c = e + M := ⟨c - M, by omega⟩
    rw [gSum_shift, hqs]
    rfl
  · rw [gSum_none]
    · rfl
    · intro hm
      obtain ⟨a, _, e⟩ := List.mem_map.1 hm
      omega

/-- What has the colour a, and the rest with its colours. -/
theorem gSplit (a : Nat) : ∀ (zs : List Int) (cs : List Nat), cs.length = zs.length → ∃ us bs ds, GShuf zs us bs ∧ ds.length = bs.length ∧ sumL us = gSum a zs cs ∧ (∀ c, c ≠ a → gSum c bs ds = gSum c zs cs) ∧ (∀ c, c ∈ ds ↔ c ∈ cs ∧ c ≠ a) ∧ gDist ds + (if a ∈ cs then 1 else 0) = gDist cs ∧ (a ∈ cs → us ≠ []) ∧ us.length = cs.countP (· == a)
  | [], cs, h => by
    obtain rfl : cs = [] := List.eq_nil_of_length_eq_zero h
    exact ⟨[], [], [], ⟨rfl, rfl⟩, rfl, rfl, fun _ _ => rfl, fun c => by simp, by simp [gDist], fun h => by simp at h, rfl⟩
  | x :: zs, d :: cs, h => by
    obtain ⟨us, bs, ds, h1, h2, h3, h4, h5, h6, h7, h8⟩ := gSplit a zs cs (by simpa using h)
    by_cases hd : d = a
    · subst hd
      refine ⟨x :: us, bs, ds, .inl ⟨us, rfl, h1⟩, h2, ?_, fun c hc => ?_, fun c => ?_, ?_, fun _ => by simp, ?_⟩
      · rw [gSum, if_pos rfl, sumL, h3]
      · rw [gSum, if_neg (fun e => hc e.symm), h4 c hc]
        omega
      · rw [h5]
        simp only [List.mem_cons]
        constructor
        · rintro ⟨p, q⟩
          exact ⟨.inr p, q⟩
        · rintro ⟨p | p, q⟩
          · exact absurd p q
          · exact ⟨p, q⟩
      · rw [gDist, ← h6]
        simp only [List.mem_cons, true_or, if_true]
        by_cases hm : d ∈ cs
        · simp [hm]
        · simp [hm]
      · rw [List.length_cons, h8, List.countP_cons]
        simp
    · have hda : a ≠ d := fun e => hd e.symm
      refine ⟨us, x :: bs, d :: ds, .inr ⟨bs, rfl, h1⟩, by simp [h2], ?_, fun c hc => ?_, fun c => ?_, ?_, ?_, ?_⟩
      · rw [gSum, if_neg hd, h3]
        omega
      · rw [gSum, gSum, h4 c hc]
      · simp only [List.mem_cons, h5]
        constructor
        · rintro (rfl | ⟨p, q⟩)
          · exact ⟨.inl rfl, hd⟩
          · exact ⟨.inr p, q⟩
        · rintro ⟨p | p, q⟩
          · exact .inl p
          · exact .inr ⟨p, q⟩
      · rw [gDist, gDist, ← h6]
        have e : d ∈ ds ↔ d ∈ cs := by rw [h5]; simp [hd]
        simp only [List.mem_cons, hda, false_or, e]
        omega
      · intro hm
        rcases List.mem_cons.1 hm with e | e
        · exact absurd e hda
        · exact h7 e
      · rw [h8, List.countP_cons]
        simp [hd]
theorem GMany.split {zs : List Int} {k : Nat} (h : GMany zs (k + 2)) : ∃ us bs, GShuf zs us bs ∧ us ≠ [] ∧ bs ≠ [] ∧ sumL us = 0 ∧ sumL bs = 0 ∧ GMany bs (k + 1) := by
  obtain ⟨cs, ⟨hl, hs⟩, hk⟩ := h
  match cs, hl, hs, hk with
  | [], _, _, hk => simp [gDist] at hk
  | a :: cs, hl, hs, hk =>
    obtain ⟨us, bs, ds, h1, h2, h3, h4, h5, h6, h7, -⟩ := gSplit a zs (a :: cs) hl
    rw [if_pos (by simp)] at h6
    have hsa : ∀ c, gSum c bs ds = 0 := by
      intro c
      by_cases hc : c = a
      · subst hc
        exact gSum_none _ _ (fun hm => ((h5 c).1 hm).2 rfl)
      · rw [h4 c hc, hs]
    have hm : GMany bs (k + 1) := ⟨ds, ⟨h2, hsa⟩, by omega⟩
    have hb : bs ≠ [] := by
      intro e
      have := gMany_len hm
      rw [e] at this
      simp at this
    refine ⟨us, bs, h1, h7 (by simp), hb, by rw [h3, hs], ?_, hm⟩
    have hz : ∀ (zs : List Int) (cs : List Nat), cs.length = zs.length → (∀ c, gSum c zs cs = 0) → sumL zs = 0 := by
      intro zs cs
      induction hn : cs.length using Nat.strongRecOn generalizing zs cs with
      | _ n ih =>
        intro hl hs
        match cs, hn with
        | [], hn =>
          have : zs = [] := List.eq_nil_of_length_eq_zero (by rw [← hl, ← hn]; rfl)
          rw [this]
          rfl
        | a :: cs, hn =>
          obtain ⟨us, bs, ds, h1, h2, h3, h4, h5, h6, h7, h8⟩ := gSplit a zs (a :: cs) (by rw [hn]; exact hl)
          have hlt : ds.length < n := by
            have e1 := GShuf.len h1
            have e2 := h7 (by simp)
            have : 0 < us.length := List.length_pos_iff.2 e2
            omega
          have := ih ds.length hlt bs ds rfl h2 (fun c => by
            by_cases hc : c = a
            · subst hc
              exact gSum_none _ _ (fun hm => ((h5 c).1 hm).2 rfl)
            · rw [h4 c hc, hs])
          rw [GShuf.sum h1, this, h3, hs]
          rfl
    exact hz bs ds h2 hsa

/-- Nobody is alone who is open. -/
theorem gMany_half : ∀ (n : Nat) (ys : List Int), ys.length = n → (∀ y ∈ ys, y ≠ 0) → ∀ k, GMany ys k → 2 * k ≤ ys.length := by
  intro n
  induction n using Nat.strongRecOn with
  | _ n ih =>
    intro ys hn hz k hk
    match k with
    | 0 => omega
    | 1 =>
      have h1 := gMany_len hk
      match ys, hz, hk, h1 with
      | [y], hz, hk, _ =>
        obtain ⟨cs, ⟨hl, hs⟩, _⟩ := hk
        match cs, hl with
        | [c], _ =>
          have := hs c
          simp [gSum] at this
          exact absurd this (hz y (by simp))
      | _ :: _ :: r, _, _, _ => simp
    | k + 2 =>
      obtain ⟨us, bs, h1, h2, h3, h4, h5, h6⟩ := hk.split
      have hl := GShuf.len h1
      have hm : ∀ {zs us bs : List Int}, GShuf zs us bs → (∀ y ∈ zs, y ≠ 0) → (∀ y ∈ us, y ≠ 0) ∧ (∀ y ∈ bs, y ≠ 0) := by
        intro zs
        induction zs with
        | nil =>
          intro us bs h _
          obtain ⟨rfl, rfl⟩ := h
          exact ⟨by simp, by simp⟩
        | cons x zs ih =>
          intro us bs h hz
          rcases h with ⟨a', rfl, h⟩ | ⟨b', rfl, h⟩
          · have := ih h (fun y hy => hz y (by simp [hy]))
            refine ⟨fun y hy => ?_, this.2⟩
            rcases List.mem_cons.1 hy with rfl | hy
            · exact hz _ (by simp)
            · exact this.1 y hy
          · have := ih h (fun y hy => hz y (by simp [hy]))
            refine ⟨this.1, fun y hy => ?_⟩
            rcases List.mem_cons.1 hy with rfl | hy
            · exact hz _ (by simp)
            · exact this.2 y hy
      have hz2 := hm h1 hz
      have ha : 2 ≤ us.length := by
        match us, h2, h4, hz2.1 with
        | [a], _, h4, hz =>
          simp [sumL] at h4
          exact absurd h4 (hz a (by simp))
        | _ :: _ :: _, _, _, _ => simp
      have := ih bs.length (by omega) bs rfl hz2.2 (k + 1) h6
      omega

/-- Those who are open. -/
def gOpen (ys : List Int) : List Int := ys.filter (fun y => y != 0)
theorem gOpen_nz (ys : List Int) : (gOpen ys).length = nz ys := by unfold gOpen nz; rw [List.countP_eq_length_filter]
def gFew : List Int → List Nat → List Nat
  | x :: xs, c :: cs => if (x != 0) = true then c :: gFew xs cs else gFew xs cs
  | _, _ => []
theorem gFew_all : ∀ (ys : List Int) (cs : List Nat), cs.length = ys.length → (gFew ys cs).length = (gOpen ys).length ∧ (∀ c, gSum c (gOpen ys) (gFew ys cs) = gSum c ys cs) ∧ (∀ c, c ∈ gFew ys cs → c ∈ cs) ∧ gDist cs + (gOpen ys).length ≤ gDist (gFew ys cs) + ys.length
  | [], cs, h => by
    obtain rfl : cs = [] := List.eq_nil_of_length_eq_zero h
    exact ⟨rfl, fun _ => rfl, by simp [gFew], Nat.le_refl _⟩
  | x :: r, c :: cs, h => by
    obtain ⟨h1, h2, h3, h4⟩ := gFew_all r cs (by simpa using h)
    by_cases hx : x = 0
    · have e1 : gOpen (x :: r) = gOpen r := by unfold gOpen; rw [List.filter_cons]; simp [hx]
      have e2 : gFew (x :: r) (c :: cs) = gFew r cs := by rw [gFew]; simp [hx]
      rw [e1, e2]
      refine ⟨h1, fun d => ?_, fun d hd => by simp [h3 d hd], ?_⟩
      · rw [gSum, h2, hx]
        simp
      · rw [gDist, List.length_cons]
        split <;> omega
    · have e1 : gOpen (x :: r) = x :: gOpen r := by unfold gOpen; rw [List.filter_cons]; simp [hx]
      have e2 : gFew (x :: r) (c :: cs) = c :: gFew r cs := by rw [gFew]; simp [hx]
      rw [e1, e2]
      refine ⟨by simp [h1], fun d => ?_, fun d hd => ?_, ?_⟩
      · rw [gSum, gSum, h2]
      · rcases List.mem_cons.1 hd with rfl | hd
        · simp
        · simp [h3 d hd]
      · rw [gDist, gDist, List.length_cons, List.length_cons]
        by_cases hm : c ∈ gFew r cs
        · rw [if_pos hm, if_pos (h3 c hm)]
          omega
        · rw [if_neg hm]
          split <;> omega
theorem GMany.few {ys : List Int} {k : Nat} (h : GMany ys k) : GMany (gOpen ys) (k + nz ys - ys.length) := by
  obtain ⟨cs, ⟨hl, hs⟩, hk⟩ := h
  obtain ⟨h1, h2, h3, h4⟩ := gFew_all ys cs hl
  rw [gOpen_nz] at h4
  exact ⟨gFew ys cs, ⟨h1, fun c => by rw [h2, hs]⟩, by omega⟩
def gExt : Nat → List Int → List Nat → List Nat
  | M, x :: xs, cs => if (x != 0) = true then cs.headD 0 :: gExt M xs cs.tail else M :: gExt (M + 1) xs cs
  | _, [], _ => []
theorem gExt_all : ∀ (ys : List Int) (cs : List Nat) (M : Nat), cs.length = (gOpen ys).length → (∀ c ∈ cs, c < M) → (gExt M ys cs).length = ys.length ∧ (∀ c, gSum c ys (gExt M ys cs) = gSum c (gOpen ys) cs) ∧ (∀ c, c ∈ gExt M ys cs → c ∈ cs ∨ M ≤ c) ∧ (∀ c, c ∈ cs → c ∈ gExt M ys cs) ∧ gDist (gExt M ys cs) + (gOpen ys).length = gDist cs + ys.length
  | [], cs, M, h, _ => by
    obtain rfl : cs = [] := List.eq_nil_of_length_eq_zero h
    exact ⟨rfl, fun _ => rfl, by simp [gExt], by simp, rfl⟩
  | x :: r, cs, M, h, hM => by
    by_cases hx : x = 0
    · have e1 : gOpen (x :: r) = gOpen r := by unfold gOpen; rw [List.filter_cons]; simp [hx]
      have e2 : gExt M (x :: r) cs = M :: gExt (M + 1) r cs := by rw [gExt]; simp [hx]
      rw [e1] at h
      obtain ⟨h1, h2, h3, h5, h4⟩ := gExt_all r cs (M + 1) h (fun c hc => by have := hM c hc; omega)
      rw [e1, e2]
      refine ⟨by simp [h1], fun d => ?_, fun d hd => ?_, fun d hd => by simp [h5 d hd], ?_⟩
      · rw [gSum, h2, hx]
        simp
      · rcases List.mem_cons.1 hd with rfl | hd
        · exact .inr (Nat.le_refl _)
        · rcases h3 d hd with e | e
          · exact .inl e
          · exact .inr (by omega)
      · have hm : M ∉ gExt (M + 1) r cs := fun hm => by
          rcases h3 M hm with e | e
          · have := hM M e
            omega
          · omega
        rw [gDist, if_neg hm, List.length_cons]
        omega
    · have e1 : gOpen (x :: r) = x :: gOpen r := by unfold gOpen; rw [List.filter_cons]; simp [hx]
      rw [e1] at h
      match cs, h, hM with
      | c :: cs, h, hM =>
        have e2 : gExt M (x :: r) (c :: cs) = c :: gExt M r cs := by rw [gExt]; simp [hx]
        obtain ⟨h1, h2, h3, h5, h4⟩ := gExt_all r cs M (by simpa using h) (fun d hd => hM d (by simp [hd]))
        rw [e1, e2]
        refine ⟨by simp [h1], fun d => by rw [gSum, gSum, h2], fun d hd => ?_, fun d hd => ?_, ?_⟩
        · rcases List.mem_cons.1 hd with rfl | hd
          · exact .inl (by simp)
          · rcases h3 d hd with e | e
            · exact .inl (by simp [e])
            · exact .inr e
        · rcases List.mem_cons.1 hd with rfl | hd
          · simp
          · simp [h5 d hd]
        · rw [gDist, gDist, List.length_cons, List.length_cons]
          have hcM := hM c (by simp)
          have e : c ∈ gExt M r cs ↔ c ∈ cs := ⟨fun hm => by
            rcases h3 c hm with e | e
            · exact e
            · omega, h5 c⟩
          by_cases hm : c ∈ cs
          · rw [if_pos hm, if_pos (e.2 hm)]
            omega
          · rw [if_neg hm, if_neg (fun hh => hm (e.1 hh))]
            omega
theorem GMany.ext {ys : List Int} {k : Nat} (h : GMany (gOpen ys) k) : GMany ys (k + ys.length - nz ys) := by
  obtain ⟨cs, ⟨hl, hs⟩, hk⟩ := h
  obtain ⟨M, hM⟩ := gBound cs
  obtain ⟨h1, h2, h3, h5, h4⟩ := gExt_all ys cs M hl hM
  rw [gOpen_nz] at h4
  exact ⟨gExt M ys cs, ⟨h1, fun c => by rw [h2, hs]⟩, by omega⟩

/-- One amount is changed. -/
theorem gSum_set (c : Nat) (v : Int) : ∀ (ys : List Int) (cs : List Nat) (i : Nat), cs.length = ys.length → i < ys.length → gSum c (ys.set i v) cs = gSum c ys cs + (if cs.getD i 0 = c then v - ys.getD i 0 else 0)
  | x :: r, d :: ds, 0, _, _ => by
    rw [List.set_cons_zero, gSum, gSum]
    simp only [List.getD_cons_zero]
    split <;> omega
  | x :: r, d :: ds, i + 1, hl, hi => by
    have := gSum_set c v r ds i (by simpa using hl) (by simpa using hi)
    rw [List.set_cons_succ, gSum, gSum, this]
    simp only [List.getD_cons_succ]
    omega
/-- Two colours become one. -/
def gMerge (a b : Nat) (cs : List Nat) : List Nat := cs.map (fun c => if c = a then b else c)
theorem gMerge_mem {a b : Nat} (hab : a ≠ b) (cs : List Nat) (c : Nat) : c ∈ gMerge a b cs ↔ (c ∈ cs ∧ c ≠ a) ∨ (c = b ∧ a ∈ cs) := by
  unfold gMerge
  rw [List.mem_map]
  constructor
  · rintro ⟨d, hd, e⟩
    by_cases h : d = a
    · rw [if_pos h] at e
      subst e h
      exact .inr ⟨rfl, hd⟩
    · rw [if_neg h] at e
      subst e
      exact .inl ⟨hd, h⟩
  · rintro (⟨h1, h2⟩ | ⟨rfl, h2⟩)
    · exact ⟨c, h1, by rw [if_neg h2]⟩
    · exact ⟨a, h2, by rw [if_pos rfl]⟩
theorem gMerge_dist {a b : Nat} (hab : a ≠ b) : ∀ cs : List Nat, gDist (gMerge a b cs) + (if a ∈ cs ∧ b ∈ cs then 1 else 0) = gDist cs
  | [] => by simp [gMerge, gDist]
  | c :: cs => by
    have ih := gMerge_dist hab cs
    have hm := gMerge_mem hab cs
    have e : gMerge a b (c :: cs) = (if c = a then b else c) :: gMerge a b cs := rfl
    rw [e, gDist, gDist]
    by_cases hca : c = a
    · subst hca
      simp only [if_true, List.mem_cons, true_or, true_and, hm]
      by_cases h1 : c ∈ cs
      · by_cases h2 : b ∈ cs
        · simp [h1, h2] at ih ⊢
          omega
        · have : ¬ b = c := fun e => hab e.symm
          simp [h1, h2, this] at ih ⊢
          omega
      · by_cases h2 : b ∈ cs
        · have : ¬ b = c := fun e => hab e.symm
          simp [h1, h2, this] at ih ⊢
          omega
        · have : ¬ b = c := fun e => hab e.symm
          simp [h1, h2, this] at ih ⊢
          omega
    · rw [if_neg hca]
      have hac : ¬ a = c := fun e => hca e.symm
      by_cases hcb : c = b
      · subst hcb
        simp only [List.mem_cons, true_or, and_true, hm, hac, false_or]
        by_cases h1 : a ∈ cs
        · by_cases h2 : c ∈ cs
          · simp [h1, h2] at ih ⊢
            omega
          · simp [h1, h2] at ih ⊢
            omega
        · by_cases h2 : c ∈ cs
          · simp [h1, h2, hca] at ih ⊢
            omega
          · simp [h1, h2] at ih ⊢
            omega
      · have hbc : ¬ b = c := fun e => hcb e.symm
        simp only [List.mem_cons, hac, hbc, false_or, hm, hcb, false_and, or_false]
        by_cases h1 : c ∈ cs
        · simp only [h1, hca, ne_eq, not_false_eq_true, and_self, if_true]
          omega
        · simp only [h1, false_and, if_false]
          omega
theorem gMerge_sum {a b : Nat} (hab : a ≠ b) (c : Nat) : ∀ (ys : List Int) (cs : List Nat), gSum c ys (gMerge a b cs) = if c = a then 0 else if c = b then gSum a ys cs + gSum b ys cs else gSum c ys cs
  | [], cs => by simp [gSum]
  | x :: r, [] => by simp [gMerge, gSum]
  | x :: r, d :: ds => by
    have ih := gMerge_sum hab c r ds
    have e : gMerge a b (d :: ds) = (if d = a then b else d) :: gMerge a b ds := rfl
    rw [e, gSum, ih]
    simp only [gSum]
    by_cases hda : d = a
    · subst hda
      by_cases h1 : c = d
      · subst h1
        have : ¬ b = c := fun e => hab e.symm
        simp [this]
      · by_cases h2 : c = b
        · subst h2
          simp [h1, hab]
          omega
        · have h3 : ¬ b = c := fun e => h2 e.symm
          have h4 : ¬ d = c := fun e => h1 e.symm
          simp [h1, h2, h3, h4]
    · rw [if_neg hda]
      by_cases h1 : c = a
      · subst h1
        simp [hda]
      · by_cases h2 : c = b
        · subst h2
          by_cases h3 : d = c
          · subst h3
            simp [h1]
            omega
          · simp [h1, h3, hda]
        · simp [h1, h2]
/-- One payment more makes one group fewer at most. -/
theorem gPay {ys : List Int} {f t : Nat} {s : Int} {k : Nat} (hf : f < ys.length) (ht : t < ys.length) (hne : f ≠ t) (h : GMany ((ys.set f (ys.getD f 0 + s)).set t (ys.getD t 0 - s)) (k + 1)) : GMany ys k := by
  obtain ⟨cs, ⟨hl, hs⟩, hk⟩ := h
  have hl' : cs.length = ys.length := by simpa using hl
  have hgt : (ys.set f (ys.getD f 0 + s)).getD t 0 = ys.getD t 0 := by
    simp only [List.getD_eq_getElem?_getD]
    rw [List.getElem?_set_ne hne]
  have hc : ∀ c, gSum c ys cs + (if cs.getD f 0 = c then s else 0) - (if cs.getD t 0 = c then s else 0) = 0 := by
    intro c
    have h1 := gSum_set c (ys.getD t 0 - s) (ys.set f (ys.getD f 0 + s)) cs t (by simpa using hl') (by simpa using ht)
    have h2 := gSum_set c (ys.getD f 0 + s) ys cs f hl' hf
    rw [hs, hgt, h2] at h1
    by_cases a1 : cs.getD f 0 = c <;> by_cases a2 : cs.getD t 0 = c
    · rw [if_pos a1, if_pos a2] at h1
      rw [if_pos a1, if_pos a2]
      omega
    · rw [if_pos a1, if_neg a2] at h1
      rw [if_pos a1, if_neg a2]
      omega
    · rw [if_neg a1, if_pos a2] at h1
      rw [if_neg a1, if_pos a2]
      omega
    · rw [if_neg a1, if_neg a2] at h1
      rw [if_neg a1, if_neg a2]
      omega
  by_cases he : cs.getD f 0 = cs.getD t 0
  · refine ⟨cs, ⟨hl', fun c => ?_⟩, by omega⟩
    have := hc c
    rw [he] at this
    split at this <;> omega
  · have hd := gMerge_dist he cs
    refine ⟨gMerge (cs.getD f 0) (cs.getD t 0) cs, ⟨by unfold gMerge; simpa using hl', fun c => ?_⟩, by split at hd <;> omega⟩
    rw [gMerge_sum he]
    by_cases h1 : c = cs.getD f 0
    · rw [if_pos h1]
    · rw [if_neg h1]
      by_cases h2 : c = cs.getD t 0
      · rw [if_pos h2]
        have a := hc (cs.getD f 0)
        have b := hc (cs.getD t 0)
        rw [if_pos rfl, if_neg (fun e => he e.symm)] at a
        rw [if_neg he, if_pos rfl] at b
        omega
      · rw [if_neg h2]
        have := hc c
        rw [if_neg (fun e => h1 e.symm), if_neg (fun e => h2 e.symm)] at this
        omega
/-- Who is even is a group alone. -/
theorem gMany_zero {ys : List Int} (h : ys.all (· == 0) = true) : GMany ys ys.length := by
  have e : gOpen ys = [] := by
    unfold gOpen
    rw [List.filter_eq_nil_iff]
    intro y hy
    have := List.all_eq_true.1 h y hy
    simpa using this
  have h1 : GMany (gOpen ys) 0 := by rw [e]; exact gMany_nil.2 rfl
  have h2 := h1.ext
  rw [nz_zero h] at h2
  simpa using h2
end Go.Proofs.YtgagfaajilbmmaaDoor

namespace Go.Proofs.YtgagfaajilbmmaaDoor

/-- The amounts of those in a set. -/
def gSub : List Int → Nat → List Int
  | [], _ => []
  | x :: xs, s => if s % 2 = 1 then x :: gSub xs (s / 2) else gSub xs (s / 2)
/-- The amounts of those in a set, and nothing for all others. -/
def gPart : List Int → Nat → List Int
  | [], _ => []
  | x :: xs, s => (if s % 2 = 1 then x else 0) :: gPart xs (s / 2)

theorem and_half (a b : Nat) : (a &&& b) / 2 = a / 2 &&& b / 2 := by
  have := Nat.and_div_two_pow (n := 1) (a := a) (b := b)
  simpa using this
theorem and_odd (a b : Nat) : (a &&& b) % 2 = a % 2 &&& b % 2 := by
  have := Nat.and_mod_two_pow (n := 1) (a := a) (b := b)
  simpa using this
theorem within_half {p s : Nat} (h : p &&& s = p) : p / 2 &&& s / 2 = p / 2 ∧ p % 2 ≤ s % 2 := by
  refine ⟨by rw [← and_half, h], ?_⟩
  have := and_odd p s
  rw [h] at this
  rw [this]
  exact Nat.and_le_right
theorem within_le {p s : Nat} (h : p &&& s = p) : p ≤ s := by
  rw [← h]
  exact Nat.and_le_right
theorem within_make {p s : Nat} (h : p / 2 &&& s / 2 = p / 2) (h2 : p % 2 ≤ s % 2) : p &&& s = p := by
  have a := and_half p s
  have b := and_odd p s
  have c : p % 2 &&& s % 2 = p % 2 := by
    have e1 : p % 2 = 0 ∨ p % 2 = 1 := by omega
    have e2 : s % 2 = 0 ∨ s % 2 = 1 := by omega
    rcases e1 with e1 | e1 <;> rcases e2 with e2 | e2 <;> rw [e1, e2] <;> first | rfl | omega
  rw [h] at a
  rw [c] at b
  omega
theorem within_self (s : Nat) : s &&& s = s := Nat.and_self s
theorem within_trans {p q s : Nat} (h1 : p &&& q = p) (h2 : q &&& s = q) : p &&& s = p := by
  rw [← h1, Nat.and_assoc, h2]
theorem rest_within : ∀ (n : Nat) {p s : Nat}, s ≤ n → p &&& s = p → (s - p) &&& s = s - p := by
  intro n
  induction n using Nat.strongRecOn with
  | _ n ih =>
    intro p s hn h
    by_cases h0 : s = 0
    · subst h0
      simp
    · have hw := within_half h
      have hl := within_le h
      have hl2 := within_le hw.1
      have := ih (s / 2) (by omega) (Nat.le_refl _) hw.1
      refine within_make ?_ (by omega)
      rw [show (s - p) / 2 = s / 2 - p / 2 from by omega]
      exact this
theorem gSub_zero : ∀ xs : List Int, gSub xs 0 = []
  | [] => rfl
  | x :: r => by
    rw [gSub, if_neg (by decide), Nat.zero_div]
    exact gSub_zero r
theorem gPart_len : ∀ (xs : List Int) (s : Nat), (gPart xs s).length = xs.length
  | [], _ => rfl
  | x :: r, s => by rw [gPart, List.length_cons, gPart_len r, List.length_cons]
theorem gSub_full : ∀ xs : List Int, gSub xs (2 ^ xs.length - 1) = xs
  | [] => rfl
  | x :: r => by
    have hp := Nat.two_pow_pos r.length
    rw [List.length_cons, gSub, Nat.pow_succ, if_pos (by omega), show (2 ^ r.length * 2 - 1) / 2 = 2 ^ r.length - 1 from by omega, gSub_full r]
theorem gSub_ne : ∀ (xs : List Int) (s : Nat), s < 2 ^ xs.length → s ≠ 0 → gSub xs s ≠ []
  | [], s, h, h0 => by simp at h; omega
  | x :: r, s, h, h0 => by
    rw [List.length_cons, Nat.pow_succ] at h
    rw [gSub]
    split
    · simp
    · exact gSub_ne r (s / 2) (by omega) (by omega)
theorem gSub_shuf : ∀ (xs : List Int) {p s : Nat}, p &&& s = p → GShuf (gSub xs s) (gSub xs p) (gSub xs (s - p))
  | [], p, s, _ => ⟨rfl, rfl⟩
  | x :: r, p, s, h => by
    have hw := within_half h
    have hl := within_le h
    have hl2 := within_le hw.1
    have ih := gSub_shuf r hw.1
    have e : (s - p) / 2 = s / 2 - p / 2 := by omega
    rw [gSub, gSub, gSub, e]
    by_cases h1 : s % 2 = 1
    · rw [if_pos h1]
      by_cases h2 : p % 2 = 1
      · rw [if_pos h2, if_neg (by omega)]
        exact .inl ⟨_, rfl, ih⟩
      · rw [if_neg h2, if_pos (by omega)]
        exact .inr ⟨_, rfl, ih⟩
    · rw [if_neg h1, if_neg (by omega), if_neg (by omega)]
      exact ih
theorem gShuf_sub : ∀ (xs : List Int) (s : Nat) {us bs : List Int}, GShuf (gSub xs s) us bs → ∃ p, p &&& s = p ∧ gSub xs p = us ∧ gSub xs (s - p) = bs
  | [], s, us, bs, h => by
    obtain ⟨rfl, rfl⟩ := h
    exact ⟨0, by simp, rfl, rfl⟩
  | x :: r, s, us, bs, h => by
    rw [gSub] at h
    by_cases h1 : s % 2 = 1
    · rw [if_pos h1] at h
      rcases h with ⟨a', rfl, h⟩ | ⟨b', rfl, h⟩
      · obtain ⟨p, hp, h2, h3⟩ := gShuf_sub r (s / 2) h
        have hl := within_le hp
        refine ⟨2 * p + 1, within_make (by rw [show (2 * p + 1) / 2 = p from by omega]; exact hp) (by omega), ?_, ?_⟩
        · rw [gSub, if_pos (by omega), show (2 * p + 1) / 2 = p from by omega, h2]
        · rw [gSub, if_neg (by omega), show (s - (2 * p + 1)) / 2 = s / 2 - p from by omega, h3]
      · obtain ⟨p, hp, h2, h3⟩ := gShuf_sub r (s / 2) h
        have hl := within_le hp
        refine ⟨2 * p, within_make (by rw [show (2 * p) / 2 = p from by omega]; exact hp) (by omega), ?_, ?_⟩
        · rw [gSub, if_neg (by omega), show (2 * p) / 2 = p from by omega, h2]
        · rw [gSub, if_pos (by omega), show (s - 2 * p) / 2 = s / 2 - p from by omega, h3]
    · rw [if_neg h1] at h
      obtain ⟨p, hp, h2, h3⟩ := gShuf_sub r (s / 2) h
      have hl := within_le hp
      refine ⟨2 * p, within_make (by rw [show (2 * p) / 2 = p from by omega]; exact hp) (by omega), ?_, ?_⟩
      · rw [gSub, if_neg (by omega), show (2 * p) / 2 = p from by omega, h2]
      · rw [gSub, if_neg (by omega), show (s - 2 * p) / 2 = s / 2 - p from by omega, h3]

/-- The best of the divisions into two with a first part up to j. -/
def gBest (t : Nat → Int) (s : Nat) : Nat → Int
  | 0 => 1
  | p + 1 => if (p + 1) &&& s = p + 1 ∧ t (p + 1) ≠ -1 then (if gBest t s p ≤ t (p + 1) + t (s - (p + 1)) then t (p + 1) + t (s - (p + 1)) else gBest t s p) else gBest t s p
def gT (xs : List Int) : Nat → Nat → Int
  | 0, _ => 0
  | m + 1, s => if s ≤ m then gT xs m s else if sumL (gSub xs s) = 0 then gBest (gT xs m) s (s - 1) else -1
/-- Into how many groups a set can be divided at most, -1 if it is not even. -/
def gV (xs : List Int) (s : Nat) : Int := gT xs s s
theorem gT_le (xs : List Int) : ∀ m s, s ≤ m → gT xs m s = gV xs s
  | 0, s, h => by
    obtain rfl : s = 0 := by omega
    rfl
  | m + 1, s, h => by
    by_cases hs : s ≤ m
    · rw [gT, if_pos hs, gT_le xs m s hs]
    · obtain rfl : s = m + 1 := by omega
      rfl
theorem gBest_congr {t t' : Nat → Int} {s : Nat} (h : ∀ p, 1 ≤ p → p < s → t p = t' p) : ∀ j, j < s → gBest t s j = gBest t' s j
  | 0, _ => rfl
  | p + 1, hj => by
    rw [gBest, gBest, gBest_congr h p (by omega), h (p + 1) (by omega) hj, h (s - (p + 1)) (by omega) (by omega)]
theorem gV_zero (xs : List Int) : gV xs 0 = 0 := rfl
theorem gV_eq (xs : List Int) {s : Nat} (h : 0 < s) : gV xs s = if sumL (gSub xs s) = 0 then gBest (gV xs) s (s - 1) else -1 := by
  obtain ⟨m, rfl⟩ : ∃ m, s = m + 1 := ⟨s - 1, by omega⟩
  unfold gV
  rw [gT, if_neg (by omega)]
  split
  · exact gBest_congr (fun p h1 h2 => gT_le xs m p (by omega)) _ (by omega)
  · rfl
theorem gBest_pos (t : Nat → Int) (s : Nat) : ∀ j, 1 ≤ gBest t s j
  | 0 => Int.le_refl _
  | p + 1 => by
    have := gBest_pos t s p
    rw [gBest]
    split
    · split <;> omega
    · exact this
theorem gBest_ge {t : Nat → Int} {s p : Nat} (h : p &&& s = p) (h1 : 1 ≤ p) (ht : t p ≠ -1) : ∀ j, p ≤ j → t p + t (s - p) ≤ gBest t s j
  | 0, hj => by omega
  | q + 1, hj => by
    rw [gBest]
    by_cases e : p = q + 1
    · subst e
      rw [if_pos ⟨h, ht⟩]
      split <;> omega
    · have := gBest_ge h h1 ht q (by omega)
      split
      · split <;> omega
      · exact this
theorem gBest_at {t : Nat → Int} {s : Nat} : ∀ j, gBest t s j = 1 ∨ ∃ p, 1 ≤ p ∧ p ≤ j ∧ p &&& s = p ∧ t p ≠ -1 ∧ gBest t s j = t p + t (s - p)
  | 0 => .inl rfl
  | q + 1 => by
    rw [gBest]
    have ih := gBest_at (t := t) (s := s) q
    have low : gBest t s q = 1 ∨ ∃ p, 1 ≤ p ∧ p ≤ q + 1 ∧ p &&& s = p ∧ t p ≠ -1 ∧ gBest t s q = t p + t (s - p) := by
      rcases ih with h | ⟨p, a, b, c⟩
      · exact .inl h
      · exact .inr ⟨p, a, by omega, c⟩
    split
    · rename_i hc
      split
      · exact .inr ⟨q + 1, by omega, by omega, hc.1, hc.2, rfl⟩
      · exact low
    · exact low
theorem gV_pos {xs : List Int} {s : Nat} (h : 0 < s) (h0 : sumL (gSub xs s) = 0) : 1 ≤ gV xs s := by
  rw [gV_eq xs h, if_pos h0]
  exact gBest_pos _ _ _
theorem gV_none {xs : List Int} {s : Nat} (h0 : sumL (gSub xs s) ≠ 0) : gV xs s = -1 := by
  have h : 0 < s := by
    rcases Nat.eq_zero_or_pos s with e | e
    · subst e
      rw [gSub_zero] at h0
      exact absurd rfl h0
    · exact e
  rw [gV_eq xs h, if_neg h0]
theorem gV_not {xs : List Int} {s : Nat} (h : 0 < s) : gV xs s ≠ -1 ↔ sumL (gSub xs s) = 0 := by
  constructor
  · intro hn
    rcases Decidable.em (sumL (gSub xs s) = 0) with e | e
    · exact e
    · exact absurd (gV_none e) hn
  · intro e
    have := gV_pos h e
    omega
theorem gV_nonneg {xs : List Int} {s : Nat} (h0 : sumL (gSub xs s) = 0) : 0 ≤ gV xs s := by
  rcases Nat.eq_zero_or_pos s with e | e
  · subst e
    exact Int.le_refl _
  · have := gV_pos e h0
    omega
theorem gV_many {xs : List Int} : ∀ (n s : Nat), s ≤ n → s < 2 ^ xs.length → sumL (gSub xs s) = 0 → ∀ k : Nat, GMany (gSub xs s) k ↔ (k : Int) ≤ gV xs s := by
  intro n
  induction n with
  | zero =>
    intro s hn _ _ k
    obtain rfl : s = 0 := by omega
    rw [gSub_zero, gV_zero, gMany_nil]
    omega
  | succ n ih =>
    intro s hn hlt h0 k
    rcases Nat.eq_zero_or_pos s with e | hs
    · subst e
      rw [gSub_zero, gV_zero, gMany_nil]
      omega
    · rw [gV_eq xs hs, if_pos h0]
      have hpos := gBest_pos (gV xs) s (s - 1)
      constructor
      · intro hk
        match k, hk with
        | 0, _ => omega
        | 1, _ => omega
        | k + 2, hk =>
          obtain ⟨us, bs, h1, h2, h3, h4, h5, h6⟩ := hk.split
          obtain ⟨p, hp, rfl, rfl⟩ := gShuf_sub xs s h1
          have hl := within_le hp
          have hp0 : p ≠ 0 := fun e => h2 (by rw [e]; exact gSub_zero xs)
          have hr0 : s - p ≠ 0 := fun e => h3 (by rw [e]; exact gSub_zero xs)
          have a := gV_pos (xs := xs) (s := p) (by omega) h4
          have b := (ih (s - p) (by omega) (by omega) h5 (k + 1)).1 h6
          have c := gBest_ge (t := gV xs) hp (by omega) (by omega) (s - 1) (by omega)
          omega
      · intro hk
        rcases gBest_at (t := gV xs) (s := s) (s - 1) with h | ⟨p, h1, h2, hp, h4, h5⟩
        · exact (gMany_one h0 (gSub_ne xs s hlt (by omega))).less (by omega)
        · have hsh := gSub_shuf xs hp
          have e1 := (gV_not (xs := xs) (s := p) (by omega)).1 h4
          have e2 : sumL (gSub xs (s - p)) = 0 := by
            have := hsh.sum
            omega
          have p1 := gV_nonneg e1
          have p2 := gV_nonneg e2
          have a := (ih p (by omega) (by omega) e1 (gV xs p).toNat).2 (by omega)
          have b := (ih (s - p) (by omega) (by omega) e2 (gV xs (s - p)).toNat).2 (by omega)
          exact (GMany.join hsh a b).less (by omega)
theorem gV_is {xs : List Int} {s : Nat} (hlt : s < 2 ^ xs.length) (h0 : sumL (gSub xs s) = 0) (k : Nat) : GMany (gSub xs s) k ↔ (k : Int) ≤ gV xs s := gV_many s s (Nat.le_refl _) hlt h0 k
theorem gV_same {xs ys : List Int} {s t : Nat} (h1 : s < 2 ^ xs.length) (h2 : t < 2 ^ ys.length) (h : gSub xs s = gSub ys t) : gV xs s = gV ys t := by
  rcases Decidable.em (sumL (gSub xs s) = 0) with e | e
  · have e' : sumL (gSub ys t) = 0 := by rw [← h]; exact e
    have a := gV_nonneg e
    have b := gV_nonneg e'
    have c := (gV_is h1 e (gV ys t).toNat).1 (by rw [h]; exact (gV_is h2 e' _).2 (by omega))
    have d := (gV_is h2 e' (gV xs s).toNat).1 (by rw [← h]; exact (gV_is h1 e _).2 (by omega))
    omega
  · rw [gV_none e, gV_none (by rw [← h]; exact e)]
theorem gSub_len : ∀ (xs : List Int) (s : Nat), (gSub xs s).length ≤ xs.length
  | [], _ => Nat.le_refl _
  | x :: r, s => by
    have := gSub_len r (s / 2)
    rw [gSub]
    split
    · simpa using this
    · rw [List.length_cons]
      omega
theorem gV_le {xs : List Int} {s : Nat} (hlt : s < 2 ^ xs.length) : gV xs s ≤ xs.length ∧ -1 ≤ gV xs s := by
  rcases Decidable.em (sumL (gSub xs s) = 0) with e | e
  · have a := gV_nonneg e
    have b := gMany_len ((gV_is hlt e (gV xs s).toNat).2 (by omega))
    have c := gSub_len xs s
    omega
  · rw [gV_none e]
    omega
theorem gV_within {xs : List Int} {p s : Nat} (hlt : s < 2 ^ xs.length) (h : p &&& s = p) (h0 : sumL (gSub xs s) = 0) (h1 : sumL (gSub xs p) = 0) : gV xs p + gV xs (s - p) ≤ gV xs s := by
  have hl := within_le h
  have hsh := gSub_shuf xs h
  have e2 : sumL (gSub xs (s - p)) = 0 := by
    have := hsh.sum
    omega
  have a := gV_nonneg h1
  have b := gV_nonneg e2
  have c := (gV_is hlt h0 ((gV xs p).toNat + (gV xs (s - p)).toNat)).1 (GMany.join hsh ((gV_is (by omega) h1 _).2 (by omega)) ((gV_is (by omega) e2 _).2 (by omega)))
  omega

/-- The first group. -/
def gCond (xs : List Int) (left g : Nat) : Bool := decide (g &&& left = g) && (gV xs g == 1 && gV xs (left - g) == gV xs left - 1)
def gFirstGo (xs : List Int) (left : Nat) : Nat → Nat → Nat
  | 0, _ => left
  | f + 1, g => if gCond xs left g = true then g else gFirstGo xs left f (g + 1)
def gFirst (xs : List Int) (left : Nat) : Nat := gFirstGo xs left (left - 1) 1
theorem gFirstGo_or (xs : List Int) (left : Nat) : ∀ f g, f + g = left → 1 ≤ g → (gCond xs left (gFirstGo xs left f g) = true ∧ 1 ≤ gFirstGo xs left f g) ∨ (gFirstGo xs left f g = left ∧ ∀ h, g ≤ h → h < left → gCond xs left h = false)
  | 0, g, e, _ => .inr ⟨rfl, fun h h1 h2 => by omega⟩
  | f + 1, g, e, hg => by
    rw [gFirstGo]
    cases hc : gCond xs left g with
    | true => exact .inl (by rw [if_pos rfl]; exact ⟨hc, hg⟩)
    | false =>
      rw [if_neg (by decide)]
      rcases gFirstGo_or xs left f (g + 1) (by omega) (by omega) with h | ⟨h1, h2⟩
      · exact .inl h
      · refine .inr ⟨h1, fun h a b => ?_⟩
        by_cases e : h = g
        · rw [e]
          exact hc
        · exact h2 h (by omega) b
structure GFirst (xs : List Int) (left p : Nat) : Prop where
  pos : 1 ≤ p
  within : p &&& left = p
  one : gV xs p = 1
  rest : gV xs (left - p) = gV xs left - 1
theorem gFirst_is {xs : List Int} {left : Nat} (hlt : left < 2 ^ xs.length) (h0 : sumL (gSub xs left) = 0) (hp : 0 < left) : GFirst xs left (gFirst xs left) := by
  have hc : ∀ g, 1 ≤ g → gCond xs left g = true → GFirst xs left g := by
    intro g h1 h
    unfold gCond at h
    simp only [Bool.and_eq_true, decide_eq_true_eq, beq_iff_eq] at h
    exact ⟨h1, h.1, h.2.1, h.2.2⟩
  rcases gFirstGo_or xs left (left - 1) 1 (by omega) (by omega) with ⟨h1, h2⟩ | ⟨h1, h2⟩
  · exact hc _ h2 h1
  · have e : gFirst xs left = left := h1
    have hv : gV xs left = 1 := by
      have := gV_pos hp h0
      rcases Int.lt_or_le 1 (gV xs left) with hl | hl
      · obtain ⟨k, hk⟩ : ∃ k : Nat, gV xs left = ((k + 2 : Nat) : Int) := ⟨(gV xs left - 2).toNat, by omega⟩
        obtain ⟨us, bs, a1, a2, a3, a4, a5, a6⟩ := ((gV_is hlt h0 (k + 2)).2 (by omega)).split
        obtain ⟨p, hp', rfl, rfl⟩ := gShuf_sub xs left a1
        have hle := within_le hp'
        have hp0 : p ≠ 0 := fun e => a2 (by rw [e]; exact gSub_zero xs)
        have hr0 : left - p ≠ 0 := fun e => a3 (by rw [e]; exact gSub_zero xs)
        have b1 := gV_pos (xs := xs) (s := p) (by omega) a4
        have b2 := (gV_is (xs := xs) (s := left - p) (by omega) a5 (k + 1)).1 a6
        have b3 := gV_within hlt hp' h0 a4
        have := h2 p (by omega) (by omega)
        unfold gCond at this
        rw [show gV xs p = 1 from by omega, show gV xs (left - p) = gV xs left - 1 from by omega] at this
        simp [hp'] at this
      · omega
    rw [e]
    exact ⟨hp, within_self left, hv, by rw [Nat.sub_self, gV_zero, hv]; rfl⟩

/-- Who is open, as a set. -/
def gSet : List Int → Nat
  | [] => 0
  | x :: r => (if (x != 0) = true then 1 else 0) + 2 * gSet r
theorem gSet_lt : ∀ xs : List Int, gSet xs < 2 ^ xs.length
  | [] => by simp [gSet]
  | x :: r => by
    have := gSet_lt r
    rw [gSet, List.length_cons, Nat.pow_succ]
    split <;> omega
theorem gSub_set : ∀ xs : List Int, gSub xs (gSet xs) = gOpen xs
  | [] => rfl
  | x :: r => by
    have ih := gSub_set r
    rw [gSet, gSub]
    unfold gOpen at *
    rw [List.filter_cons]
    by_cases hx : (x != 0) = true
    · rw [if_pos hx, if_pos hx, if_pos (by omega), show (1 + 2 * gSet r) / 2 = gSet r from by omega, ih]
    · rw [if_neg hx, if_neg hx, if_neg (by omega), show (0 + 2 * gSet r) / 2 = gSet r from by omega, ih]
theorem gOpen_sum : ∀ xs : List Int, sumL (gOpen xs) = sumL xs
  | [] => rfl
  | x :: r => by
    have ih := gOpen_sum r
    unfold gOpen at *
    rw [List.filter_cons]
    split
    · rw [sumL, sumL, ih]
    · rename_i h
      have : x = 0 := by simpa using h
      rw [sumL, ih, this]
      omega
theorem gPart_sum : ∀ (xs : List Int) (s : Nat), sumL (gPart xs s) = sumL (gSub xs s)
  | [], _ => rfl
  | x :: r, s => by
    have ih := gPart_sum r (s / 2)
    rw [gPart, gSub]
    split
    · rw [sumL, sumL, ih]
    · rw [sumL, ih]
      omega
theorem gPart_open : ∀ (xs : List Int) (s : Nat), s &&& gSet xs = s → gOpen (gPart xs s) = gSub xs s
  | [], _, _ => rfl
  | x :: r, s, h => by
    have hw := within_half h
    have hg : gSet (x :: r) / 2 = gSet r := by rw [gSet]; split <;> omega
    rw [hg] at hw
    have ih := gPart_open r (s / 2) hw.1
    have hm : gSet (x :: r) % 2 = if (x != 0) = true then 1 else 0 := by rw [gSet]; split <;> omega
    rw [gPart, gSub]
    unfold gOpen at *
    by_cases h1 : s % 2 = 1
    · rw [if_pos h1, if_pos h1, List.filter_cons]
      have hx : (x != 0) = true := by
        by_cases hx : (x != 0) = true
        · exact hx
        · rw [if_neg hx] at hm
          omega
      rw [if_pos hx, ih]
    · rw [if_neg h1, if_neg h1, List.filter_cons, if_neg (by decide), ih]
theorem gSub_nz : ∀ (xs : List Int) (s : Nat), s &&& gSet xs = s → ∀ y ∈ gSub xs s, y ≠ 0 := by
  intro xs s h y hy
  rw [← gPart_open xs s h] at hy
  have := (List.mem_filter.1 hy).2
  simpa using this
theorem gPart_mem : ∀ (xs : List Int) (s : Nat), ∀ y ∈ gPart xs s, y = 0 ∨ y ∈ xs
  | [], _, y, h => by simp [gPart] at h
  | x :: r, s, y, h => by
    rw [gPart] at h
    rcases List.mem_cons.1 h with rfl | h
    · split
      · exact .inr (by simp)
      · exact .inl rfl
    · rcases gPart_mem r (s / 2) y h with e | e
      · exact .inl e
      · exact .inr (by simp [e])
theorem gPart_rest : ∀ (xs : List Int) {p s : Nat}, p &&& s = p → ∀ i, (gPart xs s).getD i 0 = (gPart xs p).getD i 0 + (gPart xs (s - p)).getD i 0
  | [], p, s, _, i => by simp [gPart]
  | x :: r, p, s, h, i => by
    have hw := within_half h
    have hl := within_le h
    have hl2 := within_le hw.1
    have e : (s - p) / 2 = s / 2 - p / 2 := by omega
    rw [gPart, gPart, gPart, e]
    cases i with
    | succ i =>
      simp only [List.getD_cons_succ]
      exact gPart_rest r hw.1 i
    | zero =>
      simp only [List.getD_cons_zero]
      by_cases h1 : s % 2 = 1
      · by_cases h2 : p % 2 = 1
        · rw [if_pos h1, if_pos h2, if_neg (by omega)]
          omega
        · rw [if_pos h1, if_neg h2, if_pos (by omega)]
          omega
      · rw [if_neg h1, if_neg (by omega), if_neg (by omega)]
        rfl
theorem gPart_zero : ∀ (xs : List Int) (i : Nat), (gPart xs 0).getD i 0 = 0
  | [], i => by simp [gPart]
  | x :: r, 0 => by simp [gPart]
  | x :: r, i + 1 => by
    rw [gPart, Nat.zero_div]
    simp only [List.getD_cons_succ]
    exact gPart_zero r i
theorem gPart_set : ∀ (xs : List Int), gPart xs (gSet xs) = xs
  | [] => rfl
  | x :: r => by
    have hg : gSet (x :: r) / 2 = gSet r := by rw [gSet]; split <;> omega
    rw [gPart, hg, gPart_set r]
    congr 1
    by_cases hx : (x != 0) = true
    · rw [if_pos (by rw [gSet, if_pos hx]; omega)]
    · rw [if_neg (by rw [gSet, if_neg hx]; omega)]
      have : x = 0 := by simpa using hx
      exact this.symm
theorem gPart_sign : ∀ (xs : List Int) (s i : Nat), ((gPart xs s).getD i 0 < 0 → xs.getD i 0 < 0) ∧ (0 < (gPart xs s).getD i 0 → 0 < xs.getD i 0)
  | [], _, i => by simp [gPart]
  | x :: r, s, i + 1 => by
    rw [gPart]
    simp only [List.getD_cons_succ]
    exact gPart_sign r (s / 2) i
  | x :: r, s, 0 => by
    rw [gPart]
    simp only [List.getD_cons_zero]
    split
    · exact ⟨id, id⟩
    · exact ⟨fun h => absurd h (by omega), fun h => absurd h (by omega)⟩
end Go.Proofs.YtgagfaajilbmmaaDoor

namespace Go.Proofs.YtgagfaajilbmmaaDoor
open Go.RowKit

theorem getD_mem' {xs : List Int} {i : Nat} : xs.getD i 0 = 0 ∨ xs.getD i 0 ∈ xs := by
  by_cases h : i < xs.length
  · exact .inr (by simp [h])
  · exact .inl (by simp [Nat.le_of_not_lt h])
theorem carry_plain {p : Pay} {n : Nat} {ys : List Int} {B : Int} (hp : payOk p n = true) (hb : ∀ y ∈ ys, -B ≤ y ∧ y ≤ B) (h0 : 0 ≤ B) (h1 : B ≤ 1000000000000) :
    carry p ys = (ys.set p.frm.toNat (ys.getD p.frm.toNat 0 + p.sum)).set p.tow.toNat (ys.getD p.tow.toNat 0 - p.sum) ∧ (∀ y ∈ carry p ys, -(B + 9999) ≤ y ∧ y ≤ B + 9999) := by
  obtain ⟨f, t, hf, ht, hfn, htn, hne, hs1, hs2⟩ := payOk_parts hp
  have a : -B ≤ ys.getD p.frm.toNat 0 ∧ ys.getD p.frm.toNat 0 ≤ B := by
    rcases getD_mem' (xs := ys) (i := p.frm.toNat) with e | e
    · rw [e]
      omega
    · exact hb _ e
  have b : -B ≤ ys.getD p.tow.toNat 0 ∧ ys.getD p.tow.toNat 0 ≤ B := by
    rcases getD_mem' (xs := ys) (i := p.tow.toNat) with e | e
    · rw [e]
      omega
    · exact hb _ e
  have e : carry p ys = (ys.set p.frm.toNat (ys.getD p.frm.toNat 0 + p.sum)).set p.tow.toNat (ys.getD p.tow.toNat 0 - p.sum) := by
    unfold carry
    rw [IntWalk.wrap64_in _ (by omega), IntWalk.wrap64_in _ (by omega)]
  refine ⟨e, fun y hy => ?_⟩
  rw [e] at hy
  rcases List.mem_or_eq_of_mem_set hy with hy | rfl
  · rcases List.mem_or_eq_of_mem_set hy with hy | rfl
    · have := hb y hy
      omega
    · omega
  · omega

/-- What payments bring to one of the people. -/
def gEff (i : Nat) : List Pay → Int
  | [] => 0
  | p :: r => ((if p.frm.toNat = i then p.sum else 0) - (if p.tow.toNat = i then p.sum else 0)) + gEff i r
theorem gEff_app (i : Nat) : ∀ (l m : List Pay), gEff i (l ++ m) = gEff i l + gEff i m
  | [], m => by simp [gEff]
  | p :: r, m => by
    rw [List.cons_append, gEff, gEff, gEff_app i r m]
    omega
theorem set_two {ys : List Int} {f t : Nat} {s : Int} (hf : f < ys.length) (ht : t < ys.length) (hne : f ≠ t) (i : Nat) : ((ys.set f (ys.getD f 0 + s)).set t (ys.getD t 0 - s)).getD i 0 = ys.getD i 0 + ((if f = i then s else 0) - (if t = i then s else 0)) := by
  simp only [List.getD_eq_getElem?_getD]
  by_cases h1 : t = i
  · subst h1
    rw [if_pos rfl, if_neg hne, List.getElem?_set_self (by rw [List.length_set]; exact ht)]
    simp
    omega
  · rw [List.getElem?_set_ne h1, if_neg h1]
    by_cases h2 : f = i
    · subst h2
      rw [if_pos rfl, List.getElem?_set_self hf]
      simp
    · rw [if_neg h2, List.getElem?_set_ne h2]
      omega
theorem paysGo_iff : ∀ (ls : List Pay) (ys : List Int) (n : Nat) (B : Int), ys.length = n → (∀ y ∈ ys, -B ≤ y ∧ y ≤ B) → 0 ≤ B → B + 9999 * ls.length ≤ 1000000000000 → (paysGo ls ys = true ↔ (∀ p ∈ ls, payOk p n = true) ∧ ∀ i, i < n → ys.getD i 0 + gEff i ls = 0)
  | [], ys, n, B, hn, _, _, _ => by
    rw [paysGo, List.all_eq_true]
    constructor
    · intro h
      refine ⟨by simp, fun i hi => ?_⟩
      have hi' : i < ys.length := by omega
      have := h ys[i] (List.getElem_mem hi')
      rw [gEff]
      simp [hi'] at this ⊢
      omega
    · rintro ⟨_, h⟩ y hy
      obtain ⟨i, hi, rfl⟩ := List.getElem_of_mem hy
      have := h i (by omega)
      rw [gEff] at this
      simp [hi] at this ⊢
      omega
  | p :: r, ys, n, B, hn, hb, h0, h1 => by
    rw [paysGo, Bool.and_eq_true]
    subst hn
    rw [List.length_cons] at h1
    by_cases hp : payOk p ys.length = true
    · have hc := carry_plain hp hb h0 (by omega)
      have ih := paysGo_iff r (carry p ys) ys.length (B + 9999) (carry_len p ys) hc.2 (by omega) (by omega)
      obtain ⟨f, t, hf, ht, hfn, htn, hne, hs1, hs2⟩ := payOk_parts hp
      have e : ∀ i, (carry p ys).getD i 0 + gEff i r = ys.getD i 0 + gEff i (p :: r) := by
        intro i
        rw [hc.1, set_two (by omega) (by omega) (by omega), gEff]
        omega
      rw [ih]
      constructor
      · rintro ⟨_, a, b⟩
        refine ⟨fun q hq => ?_, fun i hi => by rw [← e]; exact b i hi⟩
        rcases List.mem_cons.1 hq with rfl | hq
        · exact hp
        · exact a q hq
      · rintro ⟨a, b⟩
        exact ⟨hp, fun q hq => a q (by simp [hq]), fun i hi => by rw [e]; exact b i hi⟩
    · constructor
      · rintro ⟨a, _⟩
        exact absurd a hp
      · rintro ⟨a, _⟩
        exact absurd (a p (by simp)) hp
theorem paysGo_many : ∀ (ls : List Pay) (ys : List Int) (n : Nat) (B : Int), ys.length = n → (∀ y ∈ ys, -B ≤ y ∧ y ≤ B) → 0 ≤ B → B + 9999 * ls.length ≤ 1000000000000 → paysGo ls ys = true → ∀ k, k + ls.length ≤ n → GMany ys k
  | [], ys, n, B, hn, _, _, _, h, k, hk => (gMany_zero h).less (by have e := hn; simp at hk; omega)
  | p :: r, ys, n, B, hn, hb, h0, h1, h, k, hk => by
    rw [paysGo, Bool.and_eq_true] at h
    subst hn
    rw [List.length_cons] at h1 hk
    have hc := carry_plain h.1 hb h0 (by omega)
    obtain ⟨f, t, hf, ht, hfn, htn, hne, hs1, hs2⟩ := payOk_parts h.1
    have ih := paysGo_many r (carry p ys) ys.length (B + 9999) (carry_len p ys) hc.2 (by omega) (by omega) h.2 (k + 1) (by omega)
    rw [hc.1] at ih
    exact gPay (by omega) (by omega) (by omega) ih

def gMost (xs : List Int) : Int := gV xs (gSet xs)
def groupsMostL (xs : List Int) : Int := if owedOk xs = true then gMost xs else -1
def settleLeastL (xs : List Int) : Int := if owedOk xs = true then (nz xs : Int) - gMost xs else -1
theorem owed_sum0 {xs : List Int} (h : owedOk xs = true) : sumL (gSub xs (gSet xs)) = 0 := by rw [gSub_set, gOpen_sum]; exact (FInv.start h).sum
theorem gMost_is {xs : List Int} (h : owedOk xs = true) (k : Nat) : GMany (gOpen xs) k ↔ (k : Int) ≤ gMost xs := by
  have := gV_is (gSet_lt xs) (owed_sum0 h) k
  rwa [gSub_set] at this
theorem gMost_nonneg {xs : List Int} (h : owedOk xs = true) : 0 ≤ gMost xs := gV_nonneg (owed_sum0 h)
theorem gMost_half {xs : List Int} (h : owedOk xs = true) : 2 * gMost xs ≤ nz xs := by
  have h0 := gMost_nonneg h
  have a := (gMost_is h (gMost xs).toNat).2 (by omega)
  have b := gMany_half _ (gOpen xs) rfl (fun y hy => by have := (List.mem_filter.1 hy).2; simpa using this) _ a
  rw [gOpen_nz] at b
  omega
theorem gMost_some {xs : List Int} (h : owedOk xs = true) (hn : 0 < nz xs) : 1 ≤ gMost xs := by
  have hs : sumL (gOpen xs) = 0 := by rw [gOpen_sum]; exact (FInv.start h).sum
  have hne : gOpen xs ≠ [] := by
    intro e
    have := gOpen_nz xs
    rw [e] at this
    simp at this
    omega
  exact (gMost_is h 1).1 (gMany_one hs hne)
theorem pays_least {xs : List Int} {ls : List Pay} (h : paysOkL xs ls = true) (hl : ls.length ≤ 1048576) : 0 ≤ settleLeastL xs ∧ settleLeastL xs ≤ ls.length := by
  unfold paysOkL at h
  rw [Bool.and_eq_true] at h
  have hi := FInv.start h.1
  have h0 := gMost_nonneg h.1
  have h2 := gMost_half h.1
  have hz := nz_len xs
  unfold settleLeastL
  rw [if_pos h.1]
  refine ⟨by omega, ?_⟩
  by_cases hn : ls.length ≤ xs.length
  · have a := paysGo_many ls xs xs.length 9999 rfl hi.rng (by omega) (by omega) h.2 (xs.length - ls.length) (by omega)
    have b := (gMost_is h.1 _).1 a.few
    omega
  · omega

theorem fastGo_sign {n : Nat} : ∀ (m : Nat) (ys : List Int), FInv n ys → ∀ p ∈ fastGo m ys, ys.getD p.frm.toNat 0 < 0 ∧ 0 < ys.getD p.tow.toNat 0
  | 0, ys, _, p, hp => by simp [fastGo] at hp
  | m + 1, ys, hi, p, hp => by
    cases hz : ys.all (· == 0) with
    | true =>
      rw [fastGo_zero hz] at hp
      simp at hp
    | false =>
      obtain ⟨f, t, s, hs⟩ := fast_step hi hz
      rw [fastGo_step hz, hs.eq] at hp
      have a := hs.neg
      have b := hs.pos
      have c := hs.sum_range
      rcases List.mem_cons.1 hp with rfl | hp
      · simp only [Int.toNat_natCast]
        rw [hs.fv, hs.tv]
        exact ⟨a, b⟩
      · have ih := fastGo_sign m _ (hs.next hi).1 p hp
        have hf : f < ys.length := by rw [hi.len]; exact hs.f_lt
        have ht : t < ys.length := by rw [hi.len]; exact hs.t_lt
        have hne : f ≠ t := fun e => hs.ne e.symm
        have e : ∀ i, (carry ⟨f, t, s⟩ ys).getD i 0 = ys.getD i 0 + ((if f = i then s else 0) - (if t = i then s else 0)) := by
          intro i
          rw [hs.carry_eq, ← set_two hf ht hne, hs.fv, hs.tv]
        rw [e, e] at ih
        have key : ∀ i, (ys.getD i 0 + ((if f = i then s else 0) - (if t = i then s else 0)) < 0 → ys.getD i 0 < 0) ∧ (0 < ys.getD i 0 + ((if f = i then s else 0) - (if t = i then s else 0)) → 0 < ys.getD i 0) := by
          intro i
          by_cases h1 : f = i
          · subst h1
            rw [if_pos rfl, if_neg (fun e => hne e.symm), hs.fv]
            omega
          · rw [if_neg h1]
            by_cases h2 : t = i
            · subst h2
              rw [if_pos rfl, hs.tv]
              omega
            · rw [if_neg h2]
              omega
        exact ⟨(key _).1 ih.1, (key _).2 ih.2⟩

theorem owedOk_of {xs : List Int} (h1 : xs.length ≤ 7) (h2 : ∀ y ∈ xs, -9999 ≤ y ∧ y ≤ 9999) (h3 : sumL xs = 0) : owedOk xs = true := by
  have e : sumW xs = sumL xs := by
    unfold sumW
    rw [sumGo_plain xs 0 (-9999) 9999 h2 (by omega) (by omega) (by omega) (by omega)]
    omega
  unfold owedOk owedIn
  rw [e, h3]
  simp only [Bool.and_eq_true, decide_eq_true_eq, List.all_eq_true, beq_self_eq_true, and_true]
  exact ⟨fun y hy => inR_iff.2 (h2 y hy), h1⟩
theorem gPart_ok {xs : List Int} {s : Nat} (h : owedOk xs = true) (h0 : sumL (gSub xs s) = 0) : owedOk (gPart xs s) = true := by
  refine owedOk_of (by rw [gPart_len]; exact owedOk_len h) (fun y hy => ?_) (by rw [gPart_sum, h0])
  rcases gPart_mem xs s y hy with rfl | e
  · omega
  · exact (FInv.start h).rng y e
theorem gSub_lt {xs : List Int} {s : Nat} (h : s &&& gSet xs = s) : s < 2 ^ xs.length := Nat.lt_of_le_of_lt (within_le h) (gSet_lt xs)
theorem gMost_part {xs : List Int} {s : Nat} (h : s &&& gSet xs = s) : gMost (gPart xs s) = gV xs s ∧ nz (gPart xs s) = (gSub xs s).length := by
  have e := gPart_open xs s h
  refine ⟨gV_same (gSet_lt _) (gSub_lt h) (by rw [gSub_set, e]), by rw [← gOpen_nz, e]⟩

def groupGo (xs : List Int) : Nat → Nat → List Pay
  | 0, _ => []
  | f + 1, left => if left = 0 then [] else settleFastL (gPart xs (gFirst xs left)) ++ groupGo xs f (left - gFirst xs left)
def settleBestL (xs : List Int) : List Pay := if owedOk xs = true then groupGo xs (gSet xs) (gSet xs) else []
structure GBest (xs : List Int) (left : Nat) (ls : List Pay) : Prop where
  len : (ls.length : Int) = (gSub xs left).length - gV xs left
  ok : ∀ p ∈ ls, payOk p xs.length = true
  eff : ∀ i, i < xs.length → (gPart xs left).getD i 0 + gEff i ls = 0
  sign : ∀ p ∈ ls, xs.getD p.frm.toNat 0 < 0 ∧ 0 < xs.getD p.tow.toNat 0
theorem gBest_nil (xs : List Int) : GBest xs 0 [] := ⟨by rw [gSub_zero, gV_zero]; rfl, by simp, fun i _ => by rw [gPart_zero]; rfl, by simp⟩
theorem groupGo_zero (xs : List Int) (f : Nat) : groupGo xs f 0 = [] := by cases f <;> rfl
theorem groupGo_said {xs : List Int} (hok : owedOk xs = true) : ∀ f left, left ≤ f → left &&& gSet xs = left → sumL (gSub xs left) = 0 → GBest xs left (groupGo xs f left)
  | 0, left, hf, _, _ => by
    obtain rfl : left = 0 := by omega
    exact gBest_nil xs
  | f + 1, left, hf, hw, h0 => by
    by_cases hl : left = 0
    · subst hl
      rw [groupGo_zero]
      exact gBest_nil xs
    · rw [groupGo, if_neg hl]
      have hg := gFirst_is (gSub_lt hw) h0 (by omega)
      generalize gFirst xs left = p at *
      obtain ⟨h1, h2, h3, h4⟩ := hg
      have hle := within_le h2
      have hpw := within_trans h2 hw
      have hp0 : sumL (gSub xs p) = 0 := (gV_not (by omega)).1 (by omega)
      have hsh := gSub_shuf xs h2
      have hr0 : sumL (gSub xs (left - p)) = 0 := by
        have := hsh.sum
        omega
      have hrw := within_trans (rest_within left (Nat.le_refl _) h2) hw
      have ih := groupGo_said hok f (left - p) (by omega) hrw hr0
      have hpo := gPart_ok hok hp0
      have hfs := settleFast_said hpo
      have hpl := gMost_part hpw
      have hsl := hsh.len
      have hne := gSub_ne xs p (gSub_lt hpw) (by omega)
      have hlp : 0 < (gSub xs p).length := List.length_pos_iff.2 hne
      have hfl := hfs.2.2 (by omega)
      have h7 := owedOk_len hok
      have hsl7 := gSub_len xs p
      have hlo := (pays_least hfs.1 (by omega)).2
      unfold settleLeastL at hlo
      rw [if_pos hpo, hpl.1, hpl.2, h3] at hlo
      rw [hpl.2] at hfl
      have hgo := hfs.1
      unfold paysOkL at hgo
      rw [Bool.and_eq_true] at hgo
      have hiff := (paysGo_iff _ _ xs.length 9999 (gPart_len xs p) (FInv.start hpo).rng (by omega) (by omega)).1 hgo.2
      have hsg : ∀ q ∈ settleFastL (gPart xs p), xs.getD q.frm.toNat 0 < 0 ∧ 0 < xs.getD q.tow.toNat 0 := by
        intro q hq
        unfold settleFastL at hq
        rw [if_pos hpo] at hq
        have := fastGo_sign _ _ (FInv.start hpo) q hq
        exact ⟨(gPart_sign xs p _).1 this.1, (gPart_sign xs p _).2 this.2⟩
      refine ⟨?_, fun q hq => ?_, fun i hi => ?_, fun q hq => ?_⟩
      · have := ih.len
        rw [List.length_append]
        omega
      · rcases List.mem_append.1 hq with hq | hq
        · exact hiff.1 q hq
        · exact ih.ok q hq
      · have a := hiff.2 i hi
        have b := ih.eff i hi
        rw [gPart_rest xs h2, gEff_app]
        omega
      · rcases List.mem_append.1 hq with hq | hq
        · exact hsg q hq
        · exact ih.sign q hq
theorem settleBest_said {xs : List Int} (h : owedOk xs = true) : ((settleBestL xs).length : Int) = settleLeastL xs ∧ paysOkL xs (settleBestL xs) = true ∧ (∀ p ∈ settleBestL xs, payOk p xs.length = true ∧ xs.getD p.frm.toNat 0 < 0 ∧ 0 < xs.getD p.tow.toNat 0) := by
  have hb := groupGo_said h (gSet xs) (gSet xs) (Nat.le_refl _) (within_self _) (owed_sum0 h)
  have e : settleBestL xs = groupGo xs (gSet xs) (gSet xs) := by unfold settleBestL; rw [if_pos h]
  rw [e]
  have hl := hb.len
  rw [gSub_set, gOpen_nz] at hl
  have h0 := gMost_nonneg h
  have hz := nz_len xs
  have h7 := owedOk_len h
  have hg : gV xs (gSet xs) = gMost xs := rfl
  refine ⟨by unfold settleLeastL; rw [if_pos h]; exact hl, ?_, fun p hp => ⟨hb.ok p hp, hb.sign p hp⟩⟩
  unfold paysOkL
  rw [h, Bool.true_and]
  refine (paysGo_iff _ xs xs.length 9999 rfl (FInv.start h).rng (by omega) (by omega)).2 ⟨hb.ok, fun i hi => ?_⟩
  have := hb.eff i hi
  rwa [gPart_set] at this
theorem settleBestL_len (xs : List Int) : (settleBestL xs).length ≤ 1048576 := by
  cases hI : owedOk xs with
  | false =>
    unfold settleBestL
    rw [hI]
    simp
  | true =>
    have h := (settleBest_said hI).1
    have h0 := gMost_nonneg hI
    have h7 := owedOk_len hI
    have hz := nz_len xs
    unfold settleLeastL at h
    rw [if_pos hI] at h
    omega
/-- The fast way is not much longer. -/
theorem settle_fast {xs : List Int} (h : owedOk xs = true) : 0 ≤ settleLeastL xs ∧ settleLeastL xs ≤ (settleFastL xs).length ∧ (settleLeastL xs = 0 → settleFastL xs = []) ∧ (settleLeastL xs ≠ 0 → ((settleFastL xs).length : Int) < 2 * settleLeastL xs) := by
  have hf := settleFast_said h
  have h7 := owedOk_len h
  have hz := nz_len xs
  have hle : (settleFastL xs).length ≤ 7 := by
    rcases Nat.eq_zero_or_pos (nz xs) with e | e
    · rw [hf.2.1 e]
      simp
    · have := hf.2.2 e
      omega
  have hp := pays_least hf.1 (by omega)
  have h2 := gMost_half h
  have h3 := gMost_nonneg h
  have e : settleLeastL xs = (nz xs : Int) - gMost xs := by unfold settleLeastL; rw [if_pos h]
  refine ⟨hp.1, hp.2, fun h0 => hf.2.1 (by omega), fun h0 => ?_⟩
  have := hf.2.2 (by have := hp.1; omega)
  omega
/-- Two more who owe each other just as much. -/
theorem groups_pair {xs : List Int} (h : owedOk xs = true) (h2 : owedOk (xs ++ [5, -5]) = true) : groupsMostL xs + 1 ≤ groupsMostL (xs ++ [5, -5]) := by
  unfold groupsMostL
  rw [if_pos h, if_pos h2]
  have h0 := gMost_nonneg h
  have a := (gMost_is h (gMost xs).toNat).2 (by omega)
  have e : gOpen (xs ++ [5, -5]) = gOpen xs ++ [5, -5] := by unfold gOpen; rw [List.filter_append]; rfl
  have hs : ∀ zs : List Int, GShuf (zs ++ [5, -5]) zs [5, -5] := by
    intro zs
    induction zs with
    | nil => exact .inr ⟨[-5], rfl, .inr ⟨[], rfl, rfl, rfl⟩⟩
    | cons x r ih => exact .inl ⟨r, rfl, ih⟩
  have b : GMany [5, -5] 1 := gMany_one rfl (by simp)
  have c := (gMost_is h2 ((gMost xs).toNat + 1)).1 (by rw [e]; exact GMany.join (hs _) a b)
  omega
end Go.Proofs.YtgagfaajilbmmaaDoor
