/- GrpMath: into how many groups that are even together people can be divided: colours, groups that are put together or taken apart; plain mathematics.
   Conditions: none beyond each statement's own. -/
import Derived.Test.YtgagfaajilbmmaaFastMath2
namespace Go.Proofs.Ytgagfaajilbmmaa

/-- How many different colours. -/
def gDist : List Nat → Nat
  | [] => 0
  | c :: cs => gDist cs + (if c ∈ cs then 0 else 1)
/-- The sum of what has a colour. -/
def gSum (c : Nat) : List Int → List Nat → Int
  | x :: xs, d :: ds => (if d = c then x else 0) + gSum c xs ds
  | _, _ => 0
def GCol (ys : List Int) (cs : List Nat) : Prop := cs.length = ys.length ∧ ∀ c, gSum c ys cs = 0
/-- ys can be divided into k groups or more. -/
def GMany (ys : List Int) (k : Nat) : Prop := ∃ cs, GCol ys cs ∧ k ≤ gDist cs

theorem GMany.less {ys : List Int} {k j : Nat} (h : GMany ys k) (hj : j ≤ k) : GMany ys j := by
  obtain ⟨cs, a, b⟩ := h
  exact ⟨cs, a, by omega⟩
theorem gMany_nil {k : Nat} : GMany [] k ↔ k = 0 := by
  constructor
  · rintro ⟨cs, ⟨a, _⟩, b⟩
    have : cs = [] := List.eq_nil_of_length_eq_zero (by simpa using a)
    subst this
    simpa [gDist] using b
  · rintro rfl
    exact ⟨[], ⟨rfl, fun _ => rfl⟩, Nat.le_refl _⟩
theorem gDist_le : ∀ cs : List Nat, gDist cs ≤ cs.length
  | [] => Nat.le_refl _
  | c :: cs => by
    have := gDist_le cs
    unfold gDist
    rw [List.length_cons]
    split <;> omega
theorem gMany_len {ys : List Int} {k : Nat} (h : GMany ys k) : k ≤ ys.length := by
  obtain ⟨cs, ⟨a, _⟩, b⟩ := h
  have := gDist_le cs
  omega
theorem gDist_pos {cs : List Nat} (h : cs ≠ []) : 1 ≤ gDist cs := by
  induction cs with
  | nil => exact absurd rfl h
  | cons c cs ih =>
    unfold gDist
    by_cases hm : c ∈ cs
    · have := ih (by intro e; rw [e] at hm; simp at hm)
      omega
    · rw [if_neg hm]
      omega
theorem gSum_none {c : Nat} : ∀ (ys : List Int) (cs : List Nat), c ∉ cs → gSum c ys cs = 0
  | [], _, _ => by unfold gSum; rfl
  | x :: r, [], _ => by unfold gSum; rfl
  | x :: r, d :: ds, h => by
    simp only [List.mem_cons, not_or] at h
    unfold gSum
    rw [if_neg (fun e => h.1 e.symm), gSum_none r ds h.2]
    rfl

/-- One colour for all. -/
theorem gSum_one : ∀ (ys : List Int), gSum 0 ys (ys.map fun _ => 0) = sumL ys
  | [] => by simp [gSum, sumL]
  | x :: r => by simp [gSum, sumL, gSum_one r]
theorem gDist_one : ∀ (ys : List Int), ys ≠ [] → gDist (ys.map fun _ => 0) = 1
  | [], h => absurd rfl h
  | [x], _ => by simp [gDist]
  | x :: y :: r, _ => by
    have ih := gDist_one (y :: r) (by simp)
    rw [List.map_cons, gDist, ih]
    simp
theorem gMany_one {ys : List Int} (h0 : sumL ys = 0) (hn : ys ≠ []) : GMany ys 1 := by
  refine ⟨ys.map fun _ => 0, ⟨by simp, fun c => ?_⟩, by rw [gDist_one ys hn]; exact Nat.le_refl _⟩
  by_cases hc : c = 0
  · subst hc
    rw [gSum_one, h0]
  · exact gSum_none _ _ (by simp; omega)

/-- zs is what as and bs are together, in an order. -/
def GShuf : List Int → List Int → List Int → Prop
  | [], us, bs => us = [] ∧ bs = []
  | x :: zs, us, bs => (∃ a', us = x :: a' ∧ GShuf zs a' bs) ∨ (∃ b', bs = x :: b' ∧ GShuf zs us b')
theorem GShuf.sum : ∀ {zs us bs : List Int}, GShuf zs us bs → sumL zs = sumL us + sumL bs
  | [], us, bs, h => by
    obtain ⟨rfl, rfl⟩ := h
    rfl
  | x :: zs, us, bs, h => by
    rcases h with ⟨a', rfl, h⟩ | ⟨b', rfl, h⟩
    · have := GShuf.sum h
      simp only [sumL]
      omega
    · have := GShuf.sum h
      simp only [sumL]
      omega
theorem GShuf.len : ∀ {zs us bs : List Int}, GShuf zs us bs → zs.length = us.length + bs.length
  | [], us, bs, h => by
    obtain ⟨rfl, rfl⟩ := h
    rfl
  | x :: zs, us, bs, h => by
    rcases h with ⟨a', rfl, h⟩ | ⟨b', rfl, h⟩
    · have := GShuf.len h
      simp only [List.length_cons]
      omega
    · have := GShuf.len h
      simp only [List.length_cons]
      omega
theorem gJoin : ∀ {zs us bs : List Int}, GShuf zs us bs → ∀ (p q : List Nat), p.length = us.length → q.length = bs.length → ∃ cs, cs.length = zs.length ∧ (∀ c, gSum c zs cs = gSum c us p + gSum c bs q) ∧ (∀ c, c ∈ cs ↔ c ∈ p ∨ c ∈ q) ∧ ((∀ c ∈ p, c ∉ q) → gDist cs = gDist p + gDist q)
  | [], us, bs, h, p, q, hp, hq => by
    obtain ⟨rfl, rfl⟩ := h
    obtain rfl : p = [] := List.eq_nil_of_length_eq_zero hp
    obtain rfl : q = [] := List.eq_nil_of_length_eq_zero hq
    exact ⟨[], rfl, fun _ => rfl, fun c => by simp, fun _ => rfl⟩
  | x :: zs, us, bs, h, p, q, hp, hq => by
    rcases h with ⟨a', rfl, h⟩ | ⟨b', rfl, h⟩
    · match p, hp with
      | d :: p', hp =>
        obtain ⟨cs, h1, h2, h3, h4⟩ := gJoin h p' q (by simpa using hp) hq
        refine ⟨d :: cs, by simp [h1], fun c => ?_, fun c => by simp [h3, or_assoc], fun hd => ?_⟩
        · rw [gSum, gSum, h2]
          omega
        · have hd' : ∀ c ∈ p', c ∉ q := fun c hc => hd c (by simp [hc])
          have hdq := hd d (by simp)
          rw [gDist, gDist, h4 hd']
          have e : d ∈ cs ↔ d ∈ p' := by rw [h3]; simp [hdq]
          by_cases hm : d ∈ p'
          · rw [if_pos hm, if_pos (e.2 hm)]
            omega
          · rw [if_neg hm, if_neg (fun hh => hm (e.1 hh))]
            omega
    · match q, hq with
      | d :: q', hq =>
        obtain ⟨cs, h1, h2, h3, h4⟩ := gJoin h p q' hp (by simpa using hq)
        refine ⟨d :: cs, by simp [h1], fun c => ?_, fun c => ?_, fun hd => ?_⟩
        · rw [gSum, gSum, h2]
          omega
        · simp only [List.mem_cons, h3]
          constructor
          · rintro (a | a | a) <;> simp [a]
          · rintro (a | a | a) <;> simp [a]
        · have hd' : ∀ c ∈ p, c ∉ q' := fun c hc hq => hd c hc (by simp [hq])
          have hdq : d ∉ p := fun hp => hd d hp (by simp)
          rw [gDist, gDist, h4 hd']
          have e : d ∈ cs ↔ d ∈ q' := by rw [h3]; simp [hdq]
          by_cases hm : d ∈ q'
          · rw [if_pos hm, if_pos (e.2 hm)]
            omega
          · rw [if_neg hm, if_neg (fun hh => hm (e.1 hh))]
            omega
theorem gDist_shift (M : Nat) : ∀ cs : List Nat, gDist (cs.map (· + M)) = gDist cs
  | [] => rfl
  | c :: cs => by
    rw [List.map_cons, gDist, gDist, gDist_shift M cs]
    have e : c + M ∈ cs.map (· + M) ↔ c ∈ cs := by
      rw [List.mem_map]
      constructor
      · rintro ⟨a, ha, hb⟩
        obtain rfl : a = c := by omega
        exact ha
      · intro h
        exact ⟨c, h, rfl⟩
    by_cases hm : c ∈ cs
    · rw [if_pos hm, if_pos (e.2 hm)]
    · rw [if_neg hm, if_neg (fun hh => hm (e.1 hh))]
theorem gSum_shift (M c : Nat) : ∀ (ys : List Int) (cs : List Nat), gSum (c + M) ys (cs.map (· + M)) = gSum c ys cs
  | [], _ => by unfold gSum; rfl
  | x :: r, [] => by simp [gSum]
  | x :: r, d :: ds => by
    rw [List.map_cons, gSum, gSum, gSum_shift M c r ds]
    by_cases h : d = c
    · rw [if_pos h, if_pos (by omega)]
    · rw [if_neg h, if_neg (by omega)]
theorem gBound : ∀ cs : List Nat, ∃ M, ∀ c ∈ cs, c < M
  | [] => ⟨0, by simp⟩
  | c :: cs => by
    obtain ⟨M, h⟩ := gBound cs
    refine ⟨M + c + 1, fun d hd => ?_⟩
    rcases List.mem_cons.1 hd with rfl | hd
    · omega
    · have := h d hd
      omega
theorem GMany.join {zs us bs : List Int} {j k : Nat} (h : GShuf zs us bs) (ha : GMany us j) (hb : GMany bs k) : GMany zs (j + k) := by
  obtain ⟨p, ⟨hp, hps⟩, hpk⟩ := ha
  obtain ⟨q, ⟨hq, hqs⟩, hqk⟩ := hb
  obtain ⟨M, hM⟩ := gBound p
  obtain ⟨cs, h1, h2, h3, h4⟩ := gJoin h p (q.map (· + M)) hp (by simpa using hq)
  have hd : ∀ c ∈ p, c ∉ q.map (· + M) := fun c hc hm => by
    obtain ⟨a, _, e⟩ := List.mem_map.1 hm
    have := hM c hc
    omega
  refine ⟨cs, ⟨h1, fun c => ?_⟩, by rw [h4 hd, gDist_shift]; omega⟩
  rw [h2, hps]
  by_cases hc : M ≤ c
  · obtain ⟨e, rfl⟩ : ∃ e, c = e + M := ⟨c - M, by omega⟩
    rw [gSum_shift, hqs]
    rfl
  · rw [gSum_none]
    · rfl
    · intro hm
      obtain ⟨a, _, e⟩ := List.mem_map.1 hm
      omega

/-- What has the colour a, and the rest with its colours. -/
theorem gSplit (a : Nat) : ∀ (zs : List Int) (cs : List Nat), cs.length = zs.length → ∃ us bs ds, GShuf zs us bs ∧ ds.length = bs.length ∧ sumL us = gSum a zs cs ∧ (∀ c, c ≠ a → gSum c bs ds = gSum c zs cs) ∧ (∀ c, c ∈ ds ↔ c ∈ cs ∧ c ≠ a) ∧ gDist ds + (if a ∈ cs then 1 else 0) = gDist cs ∧ (a ∈ cs → us ≠ []) ∧ us.length = cs.countP (· == a)
  | [], cs, h => by
    obtain rfl : cs = [] := List.eq_nil_of_length_eq_zero h
    exact ⟨[], [], [], ⟨rfl, rfl⟩, rfl, rfl, fun _ _ => rfl, fun c => by simp, by simp [gDist], fun h => by simp at h, rfl⟩
  | x :: zs, d :: cs, h => by
    obtain ⟨us, bs, ds, h1, h2, h3, h4, h5, h6, h7, h8⟩ := gSplit a zs cs (by simpa using h)
    by_cases hd : d = a
    · subst hd
      refine ⟨x :: us, bs, ds, .inl ⟨us, rfl, h1⟩, h2, ?_, fun c hc => ?_, fun c => ?_, ?_, fun _ => by simp, ?_⟩
      · rw [gSum, if_pos rfl, sumL, h3]
      · rw [gSum, if_neg (fun e => hc e.symm), h4 c hc]
        omega
      · rw [h5]
        simp only [List.mem_cons]
        constructor
        · rintro ⟨p, q⟩
          exact ⟨.inr p, q⟩
        · rintro ⟨p | p, q⟩
          · exact absurd p q
          · exact ⟨p, q⟩
      · rw [gDist, ← h6]
        simp only [List.mem_cons, true_or, if_true]
        by_cases hm : d ∈ cs
        · simp [hm]
        · simp [hm]
      · rw [List.length_cons, h8, List.countP_cons]
        simp
    · have hda : a ≠ d := fun e => hd e.symm
      refine ⟨us, x :: bs, d :: ds, .inr ⟨bs, rfl, h1⟩, by simp [h2], ?_, fun c hc => ?_, fun c => ?_, ?_, ?_, ?_⟩
      · rw [gSum, if_neg hd, h3]
        omega
      · rw [gSum, gSum, h4 c hc]
      · simp only [List.mem_cons, h5]
        constructor
        · rintro (rfl | ⟨p, q⟩)
          · exact ⟨.inl rfl, hd⟩
          · exact ⟨.inr p, q⟩
        · rintro ⟨p | p, q⟩
          · exact .inl p
          · exact .inr ⟨p, q⟩
      · rw [gDist, gDist, ← h6]
        have e : d ∈ ds ↔ d ∈ cs := by rw [h5]; simp [hd]
        simp only [List.mem_cons, hda, false_or, e]
        omega
      · intro hm
        rcases List.mem_cons.1 hm with e | e
        · exact absurd e hda
        · exact h7 e
      · rw [h8, List.countP_cons]
        simp [hd]
theorem GMany.split {zs : List Int} {k : Nat} (h : GMany zs (k + 2)) : ∃ us bs, GShuf zs us bs ∧ us ≠ [] ∧ bs ≠ [] ∧ sumL us = 0 ∧ sumL bs = 0 ∧ GMany bs (k + 1) := by
  obtain ⟨cs, ⟨hl, hs⟩, hk⟩ := h
  match cs, hl, hs, hk with
  | [], _, _, hk => simp [gDist] at hk
  | a :: cs, hl, hs, hk =>
    obtain ⟨us, bs, ds, h1, h2, h3, h4, h5, h6, h7, -⟩ := gSplit a zs (a :: cs) hl
    rw [if_pos (by simp)] at h6
    have hsa : ∀ c, gSum c bs ds = 0 := by
      intro c
      by_cases hc : c = a
      · subst hc
        exact gSum_none _ _ (fun hm => ((h5 c).1 hm).2 rfl)
      · rw [h4 c hc, hs]
    have hm : GMany bs (k + 1) := ⟨ds, ⟨h2, hsa⟩, by omega⟩
    have hb : bs ≠ [] := by
      intro e
      have := gMany_len hm
      rw [e] at this
      simp at this
    refine ⟨us, bs, h1, h7 (by simp), hb, by rw [h3, hs], ?_, hm⟩
    have hz : ∀ (zs : List Int) (cs : List Nat), cs.length = zs.length → (∀ c, gSum c zs cs = 0) → sumL zs = 0 := by
      intro zs cs
      induction hn : cs.length using Nat.strongRecOn generalizing zs cs with
      | _ n ih =>
        intro hl hs
        match cs, hn with
        | [], hn =>
          have : zs = [] := List.eq_nil_of_length_eq_zero (by rw [← hl, ← hn]; rfl)
          rw [this]
          rfl
        | a :: cs, hn =>
          obtain ⟨us, bs, ds, h1, h2, h3, h4, h5, h6, h7, h8⟩ := gSplit a zs (a :: cs) (by rw [hn]; exact hl)
          have hlt : ds.length < n := by
            have e1 := GShuf.len h1
            have e2 := h7 (by simp)
            have : 0 < us.length := List.length_pos_iff.2 e2
            omega
          have := ih ds.length hlt bs ds rfl h2 (fun c => by
            by_cases hc : c = a
            · subst hc
              exact gSum_none _ _ (fun hm => ((h5 c).1 hm).2 rfl)
            · rw [h4 c hc, hs])
          rw [GShuf.sum h1, this, h3, hs]
          rfl
    exact hz bs ds h2 hsa

/-- Nobody is alone who is open. -/
theorem gMany_half : ∀ (n : Nat) (ys : List Int), ys.length = n → (∀ y ∈ ys, y ≠ 0) → ∀ k, GMany ys k → 2 * k ≤ ys.length := by
  intro n
  induction n using Nat.strongRecOn with
  | _ n ih =>
    intro ys hn hz k hk
    match k with
    | 0 => omega
    | 1 =>
      have h1 := gMany_len hk
      match ys, hz, hk, h1 with
      | [y], hz, hk, _ =>
        obtain ⟨cs, ⟨hl, hs⟩, _⟩ := hk
        match cs, hl with
        | [c], _ =>
          have := hs c
          simp [gSum] at this
          exact absurd this (hz y (by simp))
      | _ :: _ :: r, _, _, _ => simp
    | k + 2 =>
      obtain ⟨us, bs, h1, h2, h3, h4, h5, h6⟩ := hk.split
      have hl := GShuf.len h1
      have hm : ∀ {zs us bs : List Int}, GShuf zs us bs → (∀ y ∈ zs, y ≠ 0) → (∀ y ∈ us, y ≠ 0) ∧ (∀ y ∈ bs, y ≠ 0) := by
        intro zs
        induction zs with
        | nil =>
          intro us bs h _
          obtain ⟨rfl, rfl⟩ := h
          exact ⟨by simp, by simp⟩
        | cons x zs ih =>
          intro us bs h hz
          rcases h with ⟨a', rfl, h⟩ | ⟨b', rfl, h⟩
          · have := ih h (fun y hy => hz y (by simp [hy]))
            refine ⟨fun y hy => ?_, this.2⟩
            rcases List.mem_cons.1 hy with rfl | hy
            · exact hz _ (by simp)
            · exact this.1 y hy
          · have := ih h (fun y hy => hz y (by simp [hy]))
            refine ⟨this.1, fun y hy => ?_⟩
            rcases List.mem_cons.1 hy with rfl | hy
            · exact hz _ (by simp)
            · exact this.2 y hy
      have hz2 := hm h1 hz
      have ha : 2 ≤ us.length := by
        match us, h2, h4, hz2.1 with
        | [a], _, h4, hz =>
          simp [sumL] at h4
          exact absurd h4 (hz a (by simp))
        | _ :: _ :: _, _, _, _ => simp
      have := ih bs.length (by omega) bs rfl hz2.2 (k + 1) h6
      omega

/-- Those who are open. -/
def gOpen (ys : List Int) : List Int := ys.filter (fun y => y != 0)
theorem gOpen_nz (ys : List Int) : (gOpen ys).length = nz ys := by unfold gOpen nz; rw [List.countP_eq_length_filter]
def gFew : List Int → List Nat → List Nat
  | x :: xs, c :: cs => if (x != 0) = true then c :: gFew xs cs else gFew xs cs
  | _, _ => []
theorem gFew_all : ∀ (ys : List Int) (cs : List Nat), cs.length = ys.length → (gFew ys cs).length = (gOpen ys).length ∧ (∀ c, gSum c (gOpen ys) (gFew ys cs) = gSum c ys cs) ∧ (∀ c, c ∈ gFew ys cs → c ∈ cs) ∧ gDist cs + (gOpen ys).length ≤ gDist (gFew ys cs) + ys.length
  | [], cs, h => by
    obtain rfl : cs = [] := List.eq_nil_of_length_eq_zero h
    exact ⟨rfl, fun _ => rfl, by simp [gFew], Nat.le_refl _⟩
  | x :: r, c :: cs, h => by
    obtain ⟨h1, h2, h3, h4⟩ := gFew_all r cs (by simpa using h)
    by_cases hx : x = 0
    · have e1 : gOpen (x :: r) = gOpen r := by unfold gOpen; rw [List.filter_cons]; simp [hx]
      have e2 : gFew (x :: r) (c :: cs) = gFew r cs := by rw [gFew]; simp [hx]
      rw [e1, e2]
      refine ⟨h1, fun d => ?_, fun d hd => by simp [h3 d hd], ?_⟩
      · rw [gSum, h2, hx]
        simp
      · rw [gDist, List.length_cons]
        split <;> omega
    · have e1 : gOpen (x :: r) = x :: gOpen r := by unfold gOpen; rw [List.filter_cons]; simp [hx]
      have e2 : gFew (x :: r) (c :: cs) = c :: gFew r cs := by rw [gFew]; simp [hx]
      rw [e1, e2]
      refine ⟨by simp [h1], fun d => ?_, fun d hd => ?_, ?_⟩
      · rw [gSum, gSum, h2]
      · rcases List.mem_cons.1 hd with rfl | hd
        · simp
        · simp [h3 d hd]
      · rw [gDist, gDist, List.length_cons, List.length_cons]
        by_cases hm : c ∈ gFew r cs
        · rw [if_pos hm, if_pos (h3 c hm)]
          omega
        · rw [if_neg hm]
          split <;> omega
theorem GMany.few {ys : List Int} {k : Nat} (h : GMany ys k) : GMany (gOpen ys) (k + nz ys - ys.length) := by
  obtain ⟨cs, ⟨hl, hs⟩, hk⟩ := h
  obtain ⟨h1, h2, h3, h4⟩ := gFew_all ys cs hl
  rw [gOpen_nz] at h4
  exact ⟨gFew ys cs, ⟨h1, fun c => by rw [h2, hs]⟩, by omega⟩
def gExt : Nat → List Int → List Nat → List Nat
  | M, x :: xs, cs => if (x != 0) = true then cs.headD 0 :: gExt M xs cs.tail else M :: gExt (M + 1) xs cs
  | _, [], _ => []
theorem gExt_all : ∀ (ys : List Int) (cs : List Nat) (M : Nat), cs.length = (gOpen ys).length → (∀ c ∈ cs, c < M) → (gExt M ys cs).length = ys.length ∧ (∀ c, gSum c ys (gExt M ys cs) = gSum c (gOpen ys) cs) ∧ (∀ c, c ∈ gExt M ys cs → c ∈ cs ∨ M ≤ c) ∧ (∀ c, c ∈ cs → c ∈ gExt M ys cs) ∧ gDist (gExt M ys cs) + (gOpen ys).length = gDist cs + ys.length
  | [], cs, M, h, _ => by
    obtain rfl : cs = [] := List.eq_nil_of_length_eq_zero h
    exact ⟨rfl, fun _ => rfl, by simp [gExt], by simp, rfl⟩
  | x :: r, cs, M, h, hM => by
    by_cases hx : x = 0
    · have e1 : gOpen (x :: r) = gOpen r := by unfold gOpen; rw [List.filter_cons]; simp [hx]
      have e2 : gExt M (x :: r) cs = M :: gExt (M + 1) r cs := by rw [gExt]; simp [hx]
      rw [e1] at h
      obtain ⟨h1, h2, h3, h5, h4⟩ := gExt_all r cs (M + 1) h (fun c hc => by have := hM c hc; omega)
      rw [e1, e2]
      refine ⟨by simp [h1], fun d => ?_, fun d hd => ?_, fun d hd => by simp [h5 d hd], ?_⟩
      · rw [gSum, h2, hx]
        simp
      · rcases List.mem_cons.1 hd with rfl | hd
        · exact .inr (Nat.le_refl _)
        · rcases h3 d hd with e | e
          · exact .inl e
          · exact .inr (by omega)
      · have hm : M ∉ gExt (M + 1) r cs := fun hm => by
          rcases h3 M hm with e | e
          · have := hM M e
            omega
          · omega
        rw [gDist, if_neg hm, List.length_cons]
        omega
    · have e1 : gOpen (x :: r) = x :: gOpen r := by unfold gOpen; rw [List.filter_cons]; simp [hx]
      rw [e1] at h
      match cs, h, hM with
      | c :: cs, h, hM =>
        have e2 : gExt M (x :: r) (c :: cs) = c :: gExt M r cs := by rw [gExt]; simp [hx]
        obtain ⟨h1, h2, h3, h5, h4⟩ := gExt_all r cs M (by simpa using h) (fun d hd => hM d (by simp [hd]))
        rw [e1, e2]
        refine ⟨by simp [h1], fun d => by rw [gSum, gSum, h2], fun d hd => ?_, fun d hd => ?_, ?_⟩
        · rcases List.mem_cons.1 hd with rfl | hd
          · exact .inl (by simp)
          · rcases h3 d hd with e | e
            · exact .inl (by simp [e])
            · exact .inr e
        · rcases List.mem_cons.1 hd with rfl | hd
          · simp
          · simp [h5 d hd]
        · rw [gDist, gDist, List.length_cons, List.length_cons]
          have hcM := hM c (by simp)
          have e : c ∈ gExt M r cs ↔ c ∈ cs := ⟨fun hm => by
            rcases h3 c hm with e | e
            · exact e
            · omega, h5 c⟩
          by_cases hm : c ∈ cs
          · rw [if_pos hm, if_pos (e.2 hm)]
            omega
          · rw [if_neg hm, if_neg (fun hh => hm (e.1 hh))]
            omega
theorem GMany.ext {ys : List Int} {k : Nat} (h : GMany (gOpen ys) k) : GMany ys (k + ys.length - nz ys) := by
  obtain ⟨cs, ⟨hl, hs⟩, hk⟩ := h
  obtain ⟨M, hM⟩ := gBound cs
  obtain ⟨h1, h2, h3, h5, h4⟩ := gExt_all ys cs M hl hM
  rw [gOpen_nz] at h4
  exact ⟨gExt M ys cs, ⟨h1, fun c => by rw [h2, hs]⟩, by omega⟩

/-- One amount is changed. -/
theorem gSum_set (c : Nat) (v : Int) : ∀ (ys : List Int) (cs : List Nat) (i : Nat), cs.length = ys.length → i < ys.length → gSum c (ys.set i v) cs = gSum c ys cs + (if cs.getD i 0 = c then v - ys.getD i 0 else 0)
  | x :: r, d :: ds, 0, _, _ => by
    rw [List.set_cons_zero, gSum, gSum]
    simp only [List.getD_cons_zero]
    split <;> omega
  | x :: r, d :: ds, i + 1, hl, hi => by
    have := gSum_set c v r ds i (by simpa using hl) (by simpa using hi)
    rw [List.set_cons_succ, gSum, gSum, this]
    simp only [List.getD_cons_succ]
    omega
/-- Two colours become one. -/
def gMerge (a b : Nat) (cs : List Nat) : List Nat := cs.map (fun c => if c = a then b else c)
theorem gMerge_mem {a b : Nat} (hab : a ≠ b) (cs : List Nat) (c : Nat) : c ∈ gMerge a b cs ↔ (c ∈ cs ∧ c ≠ a) ∨ (c = b ∧ a ∈ cs) := by
  unfold gMerge
  rw [List.mem_map]
  constructor
  · rintro ⟨d, hd, e⟩
    by_cases h : d = a
    · rw [if_pos h] at e
      subst e h
      exact .inr ⟨rfl, hd⟩
    · rw [if_neg h] at e
      subst e
      exact .inl ⟨hd, h⟩
  · rintro (⟨h1, h2⟩ | ⟨rfl, h2⟩)
    · exact ⟨c, h1, by rw [if_neg h2]⟩
    · exact ⟨a, h2, by rw [if_pos rfl]⟩
theorem gMerge_dist {a b : Nat} (hab : a ≠ b) : ∀ cs : List Nat, gDist (gMerge a b cs) + (if a ∈ cs ∧ b ∈ cs then 1 else 0) = gDist cs
  | [] => by simp [gMerge, gDist]
  | c :: cs => by
    have ih := gMerge_dist hab cs
    have hm := gMerge_mem hab cs
    have e : gMerge a b (c :: cs) = (if c = a then b else c) :: gMerge a b cs := rfl
    rw [e, gDist, gDist]
    by_cases hca : c = a
    · subst hca
      simp only [if_true, List.mem_cons, true_or, true_and, hm]
      by_cases h1 : c ∈ cs
      · by_cases h2 : b ∈ cs
        · simp [h1, h2] at ih ⊢
          omega
        · have : ¬ b = c := fun e => hab e.symm
          simp [h1, h2, this] at ih ⊢
          omega
      · by_cases h2 : b ∈ cs
        · have : ¬ b = c := fun e => hab e.symm
          simp [h1, h2, this] at ih ⊢
          omega
        · have : ¬ b = c := fun e => hab e.symm
          simp [h1, h2, this] at ih ⊢
          omega
    · rw [if_neg hca]
      have hac : ¬ a = c := fun e => hca e.symm
      by_cases hcb : c = b
      · subst hcb
        simp only [List.mem_cons, true_or, and_true, hm, hac, false_or]
        by_cases h1 : a ∈ cs
        · by_cases h2 : c ∈ cs
          · simp [h1, h2] at ih ⊢
            omega
          · simp [h1, h2] at ih ⊢
            omega
        · by_cases h2 : c ∈ cs
          · simp [h1, h2, hca] at ih ⊢
            omega
          · simp [h1, h2] at ih ⊢
            omega
      · have hbc : ¬ b = c := fun e => hcb e.symm
        simp only [List.mem_cons, hac, hbc, false_or, hm, hcb, false_and, or_false]
        by_cases h1 : c ∈ cs
        · simp only [h1, hca, ne_eq, not_false_eq_true, and_self, if_true]
          omega
        · simp only [h1, false_and, if_false]
          omega
theorem gMerge_sum {a b : Nat} (hab : a ≠ b) (c : Nat) : ∀ (ys : List Int) (cs : List Nat), gSum c ys (gMerge a b cs) = if c = a then 0 else if c = b then gSum a ys cs + gSum b ys cs else gSum c ys cs
  | [], cs => by simp [gSum]
  | x :: r, [] => by simp [gMerge, gSum]
  | x :: r, d :: ds => by
    have ih := gMerge_sum hab c r ds
    have e : gMerge a b (d :: ds) = (if d = a then b else d) :: gMerge a b ds := rfl
    rw [e, gSum, ih]
    simp only [gSum]
    by_cases hda : d = a
    · subst hda
      by_cases h1 : c = d
      · subst h1
        have : ¬ b = c := fun e => hab e.symm
        simp [this]
      · by_cases h2 : c = b
        · subst h2
          simp [h1, hab]
          omega
        · have h3 : ¬ b = c := fun e => h2 e.symm
          have h4 : ¬ d = c := fun e => h1 e.symm
          simp [h1, h2, h3, h4]
    · rw [if_neg hda]
      by_cases h1 : c = a
      · subst h1
        simp [hda]
      · by_cases h2 : c = b
        · subst h2
          by_cases h3 : d = c
          · subst h3
            simp [h1]
            omega
          · simp [h1, h3, hda]
        · simp [h1, h2]
/-- One payment more makes one group fewer at most. -/
theorem gPay {ys : List Int} {f t : Nat} {s : Int} {k : Nat} (hf : f < ys.length) (ht : t < ys.length) (hne : f ≠ t) (h : GMany ((ys.set f (ys.getD f 0 + s)).set t (ys.getD t 0 - s)) (k + 1)) : GMany ys k := by
  obtain ⟨cs, ⟨hl, hs⟩, hk⟩ := h
  have hl' : cs.length = ys.length := by simpa using hl
  have hgt : (ys.set f (ys.getD f 0 + s)).getD t 0 = ys.getD t 0 := by
    simp only [List.getD_eq_getElem?_getD]
    rw [List.getElem?_set_ne hne]
  have hc : ∀ c, gSum c ys cs + (if cs.getD f 0 = c then s else 0) - (if cs.getD t 0 = c then s else 0) = 0 := by
    intro c
    have h1 := gSum_set c (ys.getD t 0 - s) (ys.set f (ys.getD f 0 + s)) cs t (by simpa using hl') (by simpa using ht)
    have h2 := gSum_set c (ys.getD f 0 + s) ys cs f hl' hf
    rw [hs, hgt, h2] at h1
    by_cases a1 : cs.getD f 0 = c <;> by_cases a2 : cs.getD t 0 = c
    · rw [if_pos a1, if_pos a2] at h1
      rw [if_pos a1, if_pos a2]
      omega
    · rw [if_pos a1, if_neg a2] at h1
      rw [if_pos a1, if_neg a2]
      omega
    · rw [if_neg a1, if_pos a2] at h1
      rw [if_neg a1, if_pos a2]
      omega
    · rw [if_neg a1, if_neg a2] at h1
      rw [if_neg a1, if_neg a2]
      omega
  by_cases he : cs.getD f 0 = cs.getD t 0
  · refine ⟨cs, ⟨hl', fun c => ?_⟩, by omega⟩
    have := hc c
    rw [he] at this
    split at this <;> omega
  · have hd := gMerge_dist he cs
    refine ⟨gMerge (cs.getD f 0) (cs.getD t 0) cs, ⟨by unfold gMerge; simpa using hl', fun c => ?_⟩, by split at hd <;> omega⟩
    rw [gMerge_sum he]
    by_cases h1 : c = cs.getD f 0
    · rw [if_pos h1]
    · rw [if_neg h1]
      by_cases h2 : c = cs.getD t 0
      · rw [if_pos h2]
        have a := hc (cs.getD f 0)
        have b := hc (cs.getD t 0)
        rw [if_pos rfl, if_neg (fun e => he e.symm)] at a
        rw [if_neg he, if_pos rfl] at b
        omega
      · rw [if_neg h2]
        have := hc c
        rw [if_neg (fun e => h1 e.symm), if_neg (fun e => h2 e.symm)] at this
        omega
/-- Who is even is a group alone. -/
theorem gMany_zero {ys : List Int} (h : ys.all (· == 0) = true) : GMany ys ys.length := by
  have e : gOpen ys = [] := by
    unfold gOpen
    rw [List.filter_eq_nil_iff]
    intro y hy
    have := List.all_eq_true.1 h y hy
    simpa using this
  have h1 : GMany (gOpen ys) 0 := by rw [e]; exact gMany_nil.2 rfl
  have h2 := h1.ext
  rw [nz_zero h] at h2
  simpa using h2
end Go.Proofs.Ytgagfaajilbmmaa
