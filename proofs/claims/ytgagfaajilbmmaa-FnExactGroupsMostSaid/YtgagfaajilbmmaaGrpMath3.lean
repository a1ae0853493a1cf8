/- GrpMath3: the fewest payments: no payments are fewer, and so few settle everything; plain mathematics.
   Conditions: there are at most 1048576 payments. -/
import Derived.Test.YtgagfaajilbmmaaGrpMath2
namespace Go.Proofs.Ytgagfaajilbmmaa
open Go.RowKit

theorem getD_mem' {xs : List Int} {i : Nat} : xs.getD i 0 = 0 ∨ xs.getD i 0 ∈ xs := by
  by_cases h : i < xs.length
  · exact .inr (by simp [h])
  · exact .inl (by simp [Nat.le_of_not_lt h])
theorem carry_plain {p : Pay} {n : Nat} {ys : List Int} {B : Int} (hp : payOk p n = true) (hb : ∀ y ∈ ys, -B ≤ y ∧ y ≤ B) (h0 : 0 ≤ B) (h1 : B ≤ 1000000000000) :
    carry p ys = (ys.set p.frm.toNat (ys.getD p.frm.toNat 0 + p.sum)).set p.tow.toNat (ys.getD p.tow.toNat 0 - p.sum) ∧ (∀ y ∈ carry p ys, -(B + 9999) ≤ y ∧ y ≤ B + 9999) := by
  obtain ⟨f, t, hf, ht, hfn, htn, hne, hs1, hs2⟩ := payOk_parts hp
  have a : -B ≤ ys.getD p.frm.toNat 0 ∧ ys.getD p.frm.toNat 0 ≤ B := by
    rcases getD_mem' (xs := ys) (i := p.frm.toNat) with e | e
    · rw [e]
      omega
    · exact hb _ e
  have b : -B ≤ ys.getD p.tow.toNat 0 ∧ ys.getD p.tow.toNat 0 ≤ B := by
    rcases getD_mem' (xs := ys) (i := p.tow.toNat) with e | e
    · rw [e]
      omega
    · exact hb _ e
  have e : carry p ys = (ys.set p.frm.toNat (ys.getD p.frm.toNat 0 + p.sum)).set p.tow.toNat (ys.getD p.tow.toNat 0 - p.sum) := by
    unfold carry
    rw [IntWalk.wrap64_in _ (by omega), IntWalk.wrap64_in _ (by omega)]
  refine ⟨e, fun y hy => ?_⟩
  rw [e] at hy
  rcases List.mem_or_eq_of_mem_set hy with hy | rfl
  · rcases List.mem_or_eq_of_mem_set hy with hy | rfl
    · have := hb y hy
      omega
    · omega
  · omega

/-- What payments bring to one of the people. -/
def gEff (i : Nat) : List Pay → Int
  | [] => 0
  | p :: r => ((if p.frm.toNat = i then p.sum else 0) - (if p.tow.toNat = i then p.sum else 0)) + gEff i r
theorem gEff_app (i : Nat) : ∀ (l m : List Pay), gEff i (l ++ m) = gEff i l + gEff i m
  | [], m => by simp [gEff]
  | p :: r, m => by
    rw [List.cons_append, gEff, gEff, gEff_app i r m]
    omega
theorem set_two {ys : List Int} {f t : Nat} {s : Int} (hf : f < ys.length) (ht : t < ys.length) (hne : f ≠ t) (i : Nat) : ((ys.set f (ys.getD f 0 + s)).set t (ys.getD t 0 - s)).getD i 0 = ys.getD i 0 + ((if f = i then s else 0) - (if t = i then s else 0)) := by
  simp only [List.getD_eq_getElem?_getD]
  by_cases h1 : t = i
  · subst h1
    rw [if_pos rfl, if_neg hne, List.getElem?_set_self (by rw [List.length_set]; exact ht)]
    simp
    omega
  · rw [List.getElem?_set_ne h1, if_neg h1]
    by_cases h2 : f = i
    · subst h2
      rw [if_pos rfl, List.getElem?_set_self hf]
      simp
    · rw [if_neg h2, List.getElem?_set_ne h2]
      omega
theorem paysGo_iff : ∀ (ls : List Pay) (ys : List Int) (n : Nat) (B : Int), ys.length = n → (∀ y ∈ ys, -B ≤ y ∧ y ≤ B) → 0 ≤ B → B + 9999 * ls.length ≤ 1000000000000 → (paysGo ls ys = true ↔ (∀ p ∈ ls, payOk p n = true) ∧ ∀ i, i < n → ys.getD i 0 + gEff i ls = 0)
  | [], ys, n, B, hn, _, _, _ => by
    rw [paysGo, List.all_eq_true]
    constructor
    · intro h
      refine ⟨by simp, fun i hi => ?_⟩
      have hi' : i < ys.length := by omega
      have := h ys[i] (List.getElem_mem hi')
      rw [gEff]
      simp [hi'] at this ⊢
      omega
    · rintro ⟨_, h⟩ y hy
      obtain ⟨i, hi, rfl⟩ := List.getElem_of_mem hy
      have := h i (by omega)
      rw [gEff] at this
      simp [hi] at this ⊢
      omega
  | p :: r, ys, n, B, hn, hb, h0, h1 => by
    rw [paysGo, Bool.and_eq_true]
    subst hn
    rw [List.length_cons] at h1
    by_cases hp : payOk p ys.length = true
    · have hc := carry_plain hp hb h0 (by omega)
      have ih := paysGo_iff r (carry p ys) ys.length (B + 9999) (carry_len p ys) hc.2 (by omega) (by omega)
      obtain ⟨f, t, hf, ht, hfn, htn, hne, hs1, hs2⟩ := payOk_parts hp
      have e : ∀ i, (carry p ys).getD i 0 + gEff i r = ys.getD i 0 + gEff i (p :: r) := by
        intro i
        rw [hc.1, set_two (by omega) (by omega) (by omega), gEff]
        omega
      rw [ih]
      constructor
      · rintro ⟨_, a, b⟩
        refine ⟨fun q hq => ?_, fun i hi => by rw [← e]; exact b i hi⟩
        rcases List.mem_cons.1 hq with rfl | hq
        · exact hp
        · exact a q hq
      · rintro ⟨a, b⟩
        exact ⟨hp, fun q hq => a q (by simp [hq]), fun i hi => by rw [e]; exact b i hi⟩
    · constructor
      · rintro ⟨a, _⟩
        exact absurd a hp
      · rintro ⟨a, _⟩
        exact absurd (a p (by simp)) hp
theorem paysGo_many : ∀ (ls : List Pay) (ys : List Int) (n : Nat) (B : Int), ys.length = n → (∀ y ∈ ys, -B ≤ y ∧ y ≤ B) → 0 ≤ B → B + 9999 * ls.length ≤ 1000000000000 → paysGo ls ys = true → ∀ k, k + ls.length ≤ n → GMany ys k
  | [], ys, n, B, hn, _, _, _, h, k, hk => (gMany_zero h).less (by have e := hn; simp at hk; omega)
  | p :: r, ys, n, B, hn, hb, h0, h1, h, k, hk => by
    rw [paysGo, Bool.and_eq_true] at h
    subst hn
    rw [List.length_cons] at h1 hk
    have hc := carry_plain h.1 hb h0 (by omega)
    obtain ⟨f, t, hf, ht, hfn, htn, hne, hs1, hs2⟩ := payOk_parts h.1
    have ih := paysGo_many r (carry p ys) ys.length (B + 9999) (carry_len p ys) hc.2 (by omega) (by omega) h.2 (k + 1) (by omega)
    rw [hc.1] at ih
    exact gPay (by omega) (by omega) (by omega) ih

def gMost (xs : List Int) : Int := gV xs (gSet xs)
def groupsMostL (xs : List Int) : Int := if owedOk xs = true then gMost xs else -1
def settleLeastL (xs : List Int) : Int := if owedOk xs = true then (nz xs : Int) - gMost xs else -1
theorem owed_sum0 {xs : List Int} (h : owedOk xs = true) : sumL (gSub xs (gSet xs)) = 0 := by rw [gSub_set, gOpen_sum]; exact (FInv.start h).sum
theorem gMost_is {xs : List Int} (h : owedOk xs = true) (k : Nat) : GMany (gOpen xs) k ↔ (k : Int) ≤ gMost xs := by
  have := gV_is (gSet_lt xs) (owed_sum0 h) k
  rwa [gSub_set] at this
theorem gMost_nonneg {xs : List Int} (h : owedOk xs = true) : 0 ≤ gMost xs := gV_nonneg (owed_sum0 h)
theorem gMost_half {xs : List Int} (h : owedOk xs = true) : 2 * gMost xs ≤ nz xs := by
  have h0 := gMost_nonneg h
  have a := (gMost_is h (gMost xs).toNat).2 (by omega)
  have b := gMany_half _ (gOpen xs) rfl (fun y hy => by have := (List.mem_filter.1 hy).2; simpa using this) _ a
  rw [gOpen_nz] at b
  omega
theorem gMost_some {xs : List Int} (h : owedOk xs = true) (hn : 0 < nz xs) : 1 ≤ gMost xs := by
  have hs : sumL (gOpen xs) = 0 := by rw [gOpen_sum]; exact (FInv.start h).sum
  have hne : gOpen xs ≠ [] := by
    intro e
    have := gOpen_nz xs
    rw [e] at this
    simp at this
    omega
  exact (gMost_is h 1).1 (gMany_one hs hne)
theorem pays_least {xs : List Int} {ls : List Pay} (h : paysOkL xs ls = true) (hl : ls.length ≤ 1048576) : 0 ≤ settleLeastL xs ∧ settleLeastL xs ≤ ls.length := by
  unfold paysOkL at h
  rw [Bool.and_eq_true] at h
  have hi := FInv.start h.1
  have h0 := gMost_nonneg h.1
  have h2 := gMost_half h.1
  have hz := nz_len xs
  unfold settleLeastL
  rw [if_pos h.1]
  refine ⟨by omega, ?_⟩
  by_cases hn : ls.length ≤ xs.length
  · have a := paysGo_many ls xs xs.length 9999 rfl hi.rng (by omega) (by omega) h.2 (xs.length - ls.length) (by omega)
    have b := (gMost_is h.1 _).1 a.few
    omega
  · omega

theorem fastGo_sign {n : Nat} : ∀ (m : Nat) (ys : List Int), FInv n ys → ∀ p ∈ fastGo m ys, ys.getD p.frm.toNat 0 < 0 ∧ 0 < ys.getD p.tow.toNat 0
  | 0, ys, _, p, hp => by simp [fastGo] at hp
  | m + 1, ys, hi, p, hp => by
    cases hz : ys.all (· == 0) with
    | true =>
      rw [fastGo_zero hz] at hp
      simp at hp
    | false =>
      obtain ⟨f, t, s, hs⟩ := fast_step hi hz
      rw [fastGo_step hz, hs.eq] at hp
      have a := hs.neg
      have b := hs.pos
      have c := hs.sum_range
      rcases List.mem_cons.1 hp with rfl | hp
      · simp only [Int.toNat_natCast]
        rw [hs.fv, hs.tv]
        exact ⟨a, b⟩
      · have ih := fastGo_sign m _ (hs.next hi).1 p hp
        have hf : f < ys.length := by rw [hi.len]; exact hs.f_lt
        have ht : t < ys.length := by rw [hi.len]; exact hs.t_lt
        have hne : f ≠ t := fun e => hs.ne e.symm
        have e : ∀ i, (carry ⟨f, t, s⟩ ys).getD i 0 = ys.getD i 0 + ((if f = i then s else 0) - (if t = i then s else 0)) := by
          intro i
          rw [hs.carry_eq, ← set_two hf ht hne, hs.fv, hs.tv]
        rw [e, e] at ih
        have key : ∀ i, (ys.getD i 0 + ((if f = i then s else 0) - (if t = i then s else 0)) < 0 → ys.getD i 0 < 0) ∧ (0 < ys.getD i 0 + ((if f = i then s else 0) - (if t = i then s else 0)) → 0 < ys.getD i 0) := by
          intro i
          by_cases h1 : f = i
          · subst h1
            rw [if_pos rfl, if_neg (fun e => hne e.symm), hs.fv]
            omega
          · rw [if_neg h1]
            by_cases h2 : t = i
            · subst h2
              rw [if_pos rfl, hs.tv]
              omega
            · rw [if_neg h2]
              omega
        exact ⟨(key _).1 ih.1, (key _).2 ih.2⟩

theorem owedOk_of {xs : List Int} (h1 : xs.length ≤ 7) (h2 : ∀ y ∈ xs, -9999 ≤ y ∧ y ≤ 9999) (h3 : sumL xs = 0) : owedOk xs = true := by
  have e : sumW xs = sumL xs := by
    unfold sumW
    rw [sumGo_plain xs 0 (-9999) 9999 h2 (by omega) (by omega) (by omega) (by omega)]
    omega
  unfold owedOk owedIn
  rw [e, h3]
  simp only [Bool.and_eq_true, decide_eq_true_eq, List.all_eq_true, beq_self_eq_true, and_true]
  exact ⟨fun y hy => inR_iff.2 (h2 y hy), h1⟩
theorem gPart_ok {xs : List Int} {s : Nat} (h : owedOk xs = true) (h0 : sumL (gSub xs s) = 0) : owedOk (gPart xs s) = true := by
  refine owedOk_of (by rw [gPart_len]; exact owedOk_len h) (fun y hy => ?_) (by rw [gPart_sum, h0])
  rcases gPart_mem xs s y hy with rfl | e
  · omega
  · exact (FInv.start h).rng y e
theorem gSub_lt {xs : List Int} {s : Nat} (h : s &&& gSet xs = s) : s < 2 ^ xs.length := Nat.lt_of_le_of_lt (within_le h) (gSet_lt xs)
theorem gMost_part {xs : List Int} {s : Nat} (h : s &&& gSet xs = s) : gMost (gPart xs s) = gV xs s ∧ nz (gPart xs s) = (gSub xs s).length := by
  have e := gPart_open xs s h
  refine ⟨gV_same (gSet_lt _) (gSub_lt h) (by rw [gSub_set, e]), by rw [← gOpen_nz, e]⟩

def groupGo (xs : List Int) : Nat → Nat → List Pay
  | 0, _ => []
  | f + 1, left => if left = 0 then [] else settleFastL (gPart xs (gFirst xs left)) ++ groupGo xs f (left - gFirst xs left)
def settleBestL (xs : List Int) : List Pay := if owedOk xs = true then groupGo xs (gSet xs) (gSet xs) else []
structure GBest (xs : List Int) (left : Nat) (ls : List Pay) : Prop where
  len : (ls.length : Int) = (gSub xs left).length - gV xs left
  ok : ∀ p ∈ ls, payOk p xs.length = true
  eff : ∀ i, i < xs.length → (gPart xs left).getD i 0 + gEff i ls = 0
  sign : ∀ p ∈ ls, xs.getD p.frm.toNat 0 < 0 ∧ 0 < xs.getD p.tow.toNat 0
theorem gBest_nil (xs : List Int) : GBest xs 0 [] := ⟨by rw [gSub_zero, gV_zero]; rfl, by simp, fun i _ => by rw [gPart_zero]; rfl, by simp⟩
theorem groupGo_zero (xs : List Int) (f : Nat) : groupGo xs f 0 = [] := by cases f <;> rfl
theorem groupGo_said {xs : List Int} (hok : owedOk xs = true) : ∀ f left, left ≤ f → left &&& gSet xs = left → sumL (gSub xs left) = 0 → GBest xs left (groupGo xs f left)
  | 0, left, hf, _, _ => by
    obtain rfl : left = 0 := by omega
    exact gBest_nil xs
  | f + 1, left, hf, hw, h0 => by
    by_cases hl : left = 0
    · subst hl
      rw [groupGo_zero]
      exact gBest_nil xs
    · rw [groupGo, if_neg hl]
      have hg := gFirst_is (gSub_lt hw) h0 (by omega)
      generalize gFirst xs left = p at *
      obtain ⟨h1, h2, h3, h4⟩ := hg
      have hle := within_le h2
      have hpw := within_trans h2 hw
      have hp0 : sumL (gSub xs p) = 0 := (gV_not (by omega)).1 (by omega)
      have hsh := gSub_shuf xs h2
      have hr0 : sumL (gSub xs (left - p)) = 0 := by
        have := hsh.sum
        omega
      have hrw := within_trans (rest_within left (Nat.le_refl _) h2) hw
      have ih := groupGo_said hok f (left - p) (by omega) hrw hr0
      have hpo := gPart_ok hok hp0
      have hfs := settleFast_said hpo
      have hpl := gMost_part hpw
      have hsl := hsh.len
      have hne := gSub_ne xs p (gSub_lt hpw) (by omega)
      have hlp : 0 < (gSub xs p).length := List.length_pos_iff.2 hne
      have hfl := hfs.2.2 (by omega)
      have h7 := owedOk_len hok
      have hsl7 := gSub_len xs p
      have hlo := (pays_least hfs.1 (by omega)).2
      unfold settleLeastL at hlo
      rw [if_pos hpo, hpl.1, hpl.2, h3] at hlo
      rw [hpl.2] at hfl
      have hgo := hfs.1
      unfold paysOkL at hgo
      rw [Bool.and_eq_true] at hgo
      have hiff := (paysGo_iff _ _ xs.length 9999 (gPart_len xs p) (FInv.start hpo).rng (by omega) (by omega)).1 hgo.2
      have hsg : ∀ q ∈ settleFastL (gPart xs p), xs.getD q.frm.toNat 0 < 0 ∧ 0 < xs.getD q.tow.toNat 0 := by
        intro q hq
        unfold settleFastL at hq
        rw [if_pos hpo] at hq
        have := fastGo_sign _ _ (FInv.start hpo) q hq
        exact ⟨(gPart_sign xs p _).1 this.1, (gPart_sign xs p _).2 this.2⟩
      refine ⟨?_, fun q hq => ?_, fun i hi => ?_, fun q hq => ?_⟩
      · have := ih.len
        rw [List.length_append]
        omega
      · rcases List.mem_append.1 hq with hq | hq
        · exact hiff.1 q hq
        · exact ih.ok q hq
      · have a := hiff.2 i hi
        have b := ih.eff i hi
        rw [gPart_rest xs h2, gEff_app]
        omega
      · rcases List.mem_append.1 hq with hq | hq
        · exact hsg q hq
        · exact ih.sign q hq
theorem settleBest_said {xs : List Int} (h : owedOk xs = true) : ((settleBestL xs).length : Int) = settleLeastL xs ∧ paysOkL xs (settleBestL xs) = true ∧ (∀ p ∈ settleBestL xs, payOk p xs.length = true ∧ xs.getD p.frm.toNat 0 < 0 ∧ 0 < xs.getD p.tow.toNat 0) := by
  have hb := groupGo_said h (gSet xs) (gSet xs) (Nat.le_refl _) (within_self _) (owed_sum0 h)
  have e : settleBestL xs = groupGo xs (gSet xs) (gSet xs) := by unfold settleBestL; rw [if_pos h]
  rw [e]
  have hl := hb.len
  rw [gSub_set, gOpen_nz] at hl
  have h0 := gMost_nonneg h
  have hz := nz_len xs
  have h7 := owedOk_len h
  have hg : gV xs (gSet xs) = gMost xs := rfl
  refine ⟨by unfold settleLeastL; rw [if_pos h]; exact hl, ?_, fun p hp => ⟨hb.ok p hp, hb.sign p hp⟩⟩
  unfold paysOkL
  rw [h, Bool.true_and]
  refine (paysGo_iff _ xs xs.length 9999 rfl (FInv.start h).rng (by omega) (by omega)).2 ⟨hb.ok, fun i hi => ?_⟩
  have := hb.eff i hi
  rwa [gPart_set] at this
theorem settleBestL_len (xs : List Int) : (settleBestL xs).length ≤ 1048576 := by
  cases hI : owedOk xs with
  | false =>
    unfold settleBestL
    rw [hI]
    simp
  | true =>
    have h := (settleBest_said hI).1
    have h0 := gMost_nonneg hI
    have h7 := owedOk_len hI
    have hz := nz_len xs
    unfold settleLeastL at h
    rw [if_pos hI] at h
    omega
/-- The fast way is not much longer. -/
theorem settle_fast {xs : List Int} (h : owedOk xs = true) : 0 ≤ settleLeastL xs ∧ settleLeastL xs ≤ (settleFastL xs).length ∧ (settleLeastL xs = 0 → settleFastL xs = []) ∧ (settleLeastL xs ≠ 0 → ((settleFastL xs).length : Int) < 2 * settleLeastL xs) := by
  have hf := settleFast_said h
  have h7 := owedOk_len h
  have hz := nz_len xs
  have hle : (settleFastL xs).length ≤ 7 := by
    rcases Nat.eq_zero_or_pos (nz xs) with e | e
    · rw [hf.2.1 e]
      simp
    · have := hf.2.2 e
      omega
  have hp := pays_least hf.1 (by omega)
  have h2 := gMost_half h
  have h3 := gMost_nonneg h
  have e : settleLeastL xs = (nz xs : Int) - gMost xs := by unfold settleLeastL; rw [if_pos h]
  refine ⟨hp.1, hp.2, fun h0 => hf.2.1 (by omega), fun h0 => ?_⟩
  have := hf.2.2 (by have := hp.1; omega)
  omega
/-- Two more who owe each other just as much. -/
theorem groups_pair {xs : List Int} (h : owedOk xs = true) (h2 : owedOk (xs ++ [5, -5]) = true) : groupsMostL xs + 1 ≤ groupsMostL (xs ++ [5, -5]) := by
  unfold groupsMostL
  rw [if_pos h, if_pos h2]
  have h0 := gMost_nonneg h
  have a := (gMost_is h (gMost xs).toNat).2 (by omega)
  have e : gOpen (xs ++ [5, -5]) = gOpen xs ++ [5, -5] := by unfold gOpen; rw [List.filter_append]; rfl
  have hs : ∀ zs : List Int, GShuf (zs ++ [5, -5]) zs [5, -5] := by
    intro zs
    induction zs with
    | nil => exact .inr ⟨[-5], rfl, .inr ⟨[], rfl, rfl, rfl⟩⟩
    | cons x r ih => exact .inl ⟨r, rfl, ih⟩
  have b : GMany [5, -5] 1 := gMany_one rfl (by simp)
  have c := (gMost_is h2 ((gMost xs).toNat + 1)).1 (by rw [e]; exact GMany.join (hs _) a b)
  omega
end Go.Proofs.Ytgagfaajilbmmaa
