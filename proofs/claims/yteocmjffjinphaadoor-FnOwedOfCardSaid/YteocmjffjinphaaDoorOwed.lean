/- OwedOf: contracts of the program and of the reference model.
   Conditions: lists have at most 1048576 elements. -/
import Derived.Test.YteocmjffjinphaaDoorShare2
import Derived.Deep.RegionHeld3
namespace Go.Proofs.YteocmjffjinphaaDoor
open Go.RowKit Go.ChangeShapes Go.WideShapes Go.ChangeAt Go.Deep

def subW (p q : Int) : Int := wrap64 (p - q)
def paidOk (xs ps : List Int) : Bool := decide ((ps.length : Int) = (xs.length : Int)) && rangeOk 9999 ps
def owedOfL (xs ps : List Int) : List Int := if (sharesOk xs && paidOk xs ps) = true then List.zipWith subW ps (shareOfL xs (sumW ps)) else []
theorem owedOfL_len (xs ps : List Int) : (owedOfL xs ps).length ≤ xs.length := by
  unfold owedOfL
  split
  · rw [List.length_zipWith]
    have := shareOfL_len xs (sumW ps)
    omega
  · simp
/-- Append of one number, at a step of a region that draws its order; the new place is the old one or a new block. -/
theorem step_push_int4 {W : World} {ops : Array Oper} {o : Oper} {a : Act} {K : Act → World → Prop} {Q : Exit → Act → World → Prop} {E : Prop} (hgd : o.guard = none) (s x : Operand)
    (ho : o.op = .call { callee := .builtin .append, args := #[s, x], argTypes := #[30, 30] }) (lo : Nat) (v : Value) (xs : List Int) (hs : a.eval s = v) (hown : IntSl W lo v xs) (g : Nat) (y : Int)
    (hx : a.eval x = .slice (some ⟨g, 0, none⟩) 1 1) (hg : W.heap[g]? = some (.cells #[.int .i64 y] 3 (0, 0))) (hn : xs.length ≤ 1048576) (hlo : lo ≤ W.heap.size)
    (h : ∀ g' cap w', IntSl w' lo (.slice (some ⟨g', 0, none⟩) (xs.length + 1) cap) (xs ++ [y]) → W.grownBy w' v.ownBlock → (v.ownBlock = some g' ∨ g' = W.heap.size) → K (a.put o.dst (.slice (some ⟨g', 0, none⟩) (xs.length + 1) cap)) w') :
    if Region.wanted o (yielded ops a.tmps) = true then Oper.wp Tryd.prog o a W K Q else E := by
  obtain ⟨i0, hi, hz0, hz1, hz2⟩ := info_parts info3
  refine step_append_lies W hgd s x 30 ho lo 3 i0 (.int .i64 0) 1 8 Tryd.underlying30 hi hz0 hz1 hz2 rfl (by decide) v xs.length (xs.map (.int .i64)) hs hown ⟨g, 0, none⟩ 1 1 [.int .i64 y] hx rfl
    (World.news_of_block (cs := #[.int .i64 y]) hg) (ints_oneCell .i64 [y]) (by decide) (by unfold maxLen; omega) (by omega) hlo _ rfl ?_
  intro g' cap w' h1 h2 h3 _
  refine h g' cap w' ?_ h2 h3
  unfold IntSl
  rw [List.length_append, List.map_append]
  exact h1

theorem zip_step {ps qs : List Int} {k : Nat} {p q : Int} (hp : ps[k]? = some p) (hq : qs[k]? = some q) : (List.zipWith subW ps qs).take (k + 1) = (List.zipWith subW ps qs).take k ++ [subW p q] := by
  rw [List.take_add_one]
  simp [List.getElem?_zipWith, hp, hq]

set_option maxRecDepth 100000 in
set_option maxHeartbeats 2000000 in
theorem implOwedOf_any (A : Addr) (B : Option Addr) (c d : Nat) (xs ps : List Int) (w : World) (hA : IntsAt w (some A) xs) (hl : xs.length ≤ 1048576) (hB : IntsAt w B ps) (hm : ps.length ≤ 1048576) :
    Calls Tryd.prog 50 #[.slice (some A) xs.length c, .slice B ps.length d] w fun e w' => ∃ v, e = .returned v ∧ IntSl w' w.heap.size v (owedOfL xs ps) ∧ Below w.heap.size w w' := by
  cases hI : sharesOk xs with
  | false =>
    have HI := hide hI
    have H3 : Hid (owedOfL xs ps = []) := hide (by unfold owedOfL; rw [hI]; rfl)
    clear hI
    go_enter Tryd.func50, Tryd.ntmps50
    go_wp2_with fail
    refine (implSharesValid_any _ _ _ _ hA hl).mono ?_
    rintro e w1 ⟨rfl, hB1⟩
    rw [HI.out]
    go_wp2_with fail
    refine bodyPost_ret (results_tmp rfl _ _ _) rfl ⟨.slice none 0 0, rfl, by rw [H3.out]; exact World.ownsRow_nil _ _ _ _, hB1⟩
  | true =>
    have HI := hide hI
    cases hP : paidOk xs ps with
    | false =>
      have HP := hide hP
      have H3 : Hid (owedOfL xs ps = []) := hide (by unfold owedOfL; rw [hP]; simp)
      clear hI hP
      go_enter Tryd.func50, Tryd.ntmps50
      go_wp2_with fail
      refine (implSharesValid_any _ _ _ _ hA hl).mono ?_
      rintro e w1 ⟨rfl, hB1⟩
      rw [HI.out]
      go_wp2_with fail
      refine (allInRange_any _ _ _ _ _ _ (hB.below hB1) hm).mono ?_
      rintro e w2 ⟨rfl, hB2⟩
      have hb2 := next hB1 hB2
      rw [show (decide ((ps.length : Int) = (xs.length : Int)) && rangeOk 9999 ps) = false from HP.out]
      go_wp2_with fail
      refine bodyPost_ret (results_tmp rfl _ _ _) rfl ⟨.slice none 0 0, rfl, by rw [H3.out]; exact World.ownsRow_nil _ _ _ _, hb2⟩
    | true =>
      have HP := hide hP
      have H3 : Hid (owedOfL xs ps = List.zipWith subW ps (shareOfL xs (sumW ps))) := hide (by unfold owedOfL; rw [hI, hP]; rfl)
      have hpl : ps.length = xs.length := by
        unfold paidOk at hP
        simp only [Bool.and_eq_true, decide_eq_true_eq] at hP
        omega
      have HPL := hide hpl
      have HQL := hide (shareOfL_len xs (sumW ps))
      clear hI hP hpl
      go_enter Tryd.func50, Tryd.ntmps50
      go_wp2_with fail
      refine (implSharesValid_any _ _ _ _ hA hl).mono ?_
      rintro e w1 ⟨rfl, hB1⟩
      rw [HI.out]
      go_wp2_with fail
      refine (allInRange_any _ _ _ _ _ _ (hB.below hB1) hm).mono ?_
      rintro e w2 ⟨rfl, hB2⟩
      have hb2 := next hB1 hB2
      rw [show (decide ((ps.length : Int) = (xs.length : Int)) && rangeOk 9999 ps) = true from HP.out]
      go_wp2_with fail
      refine (sumOf_any _ _ _ _ (hB.below hb2) hm).mono ?_
      rintro e w3 ⟨rfl, rfl⟩
      have hsz2 := hb2.size
      go_wp2_with fail
      refine (implShareOf_any _ _ _ _ _ (hA.below hb2) hl).mono ?_
      rintro e w4 ⟨v, rfl, hS, hB4⟩
      have hb4 := next hb2 hB4
      have hS4 := hS.mono hsz2
      obtain ⟨Q, hQ⟩ : ∃ Q, shareOfL xs (sumW ps) = Q := ⟨_, rfl⟩
      rw [hQ] at hS4 H3 HQL
      obtain ⟨AQ, cq, e, -, -⟩ := hS4.form
      subst e
      have HS4 := hide hS4
      clear hS hS4 hQ hB1 hB2 hB4 hb2
      go_wp2_with fail
      go_loopw [24] (fun i wr => ∃ (k : Nat) (os : List Int), k ≤ Q.length ∧ i = .int .i64 k ∧ Hid (os.length = Q.length ∧ os.take k = (List.zipWith subW ps Q).take k ∧ os.drop k = Q.drop k) ∧ IntSl wr w.heap.size (.slice AQ Q.length cq) os ∧ Below w.heap.size w wr) (fun i _ => Q.length - (intOf i).toNat)
      case atStart => exact ⟨0, Q, Nat.zero_le _, rfl, hide ⟨rfl, by simp, rfl⟩, HS4.out, hb4⟩
      case round =>
        clear HS4 hb4
        obtain ⟨k, os, hk, rfl, HO, hS, hb⟩ := hrel
        have hsz := hb.size
        by_cases hlt : k < Q.length
        · have hkp : k < ps.length := by rw [HPL.out]; have := HQL.out; omega
          have hko : k < os.length := by rw [HO.out.1]; exact hlt
          obtain ⟨b1, off1, rfl, hbl1, hc1⟩ := (hB.below hb) k ps[k] (List.getElem?_eq_getElem hkp)
          obtain ⟨GQ, cap, e, hg0, hg1⟩ := hS.own (by omega)
          injection e with e1 e2 e3
          clear e2
          subst e1 e3
          have hpe := List.getElem?_eq_getElem hkp
          have hoq : os[k]? = Q[k]? := by
            have := congrArg (fun l => l[0]?) HO.out.2.2
            simpa using this
          have hqe := List.getElem?_eq_getElem hlt
          have hcq := hS.cellAt (hoq.trans hqe)
          have hfq := hS.frozenAt k
          generalize ps[k] = p at *
          generalize Q[k] = q at *
          have HO2 : Hid ((os.set k (subW p q)).length = Q.length ∧ (os.set k (subW p q)).take (k + 1) = (List.zipWith subW ps Q).take (k + 1) ∧ (os.set k (subW p q)).drop (k + 1) = Q.drop (k + 1)) := hide ⟨by rw [List.length_set]; exact HO.out.1, by
            rw [zip_step hpe hqe, ← HO.out.2.1, List.take_succ_eq_append_getElem (by rw [List.length_set]; exact hko), List.take_set_of_le (Nat.le_refl k)]
            simp, by
            have h2 : os.drop (k + 1) = Q.drop (k + 1) := by
              have := congrArg (fun l => l.drop 1) HO.out.2.2
              simpa [List.drop_drop] using this
            rw [List.drop_set_of_lt (by omega)]
            exact h2⟩
          have g1 := IntSl.grownSet hS k (subW p q)
          have HS1 := hide (IntSl.store hS k (subW p q))
          have HB1 := hide (hb.grown g1 hsz (fun k hk => by injection hk with hk; omega))
          have hz : (0 : Int) ≤ k := by omega
          have hz2 : (k : Int) < Q.length := by omega
          have hz3 : (k : Int) < ps.length := by omega
          clear hpe hqe hoq hko g1 hS
          go_wp2_with fail
          go_roundw
          case rel => exact ⟨k + 1, os.set k (subW p q), hlt, by go_num, HO2, HS1.out, HB1.out⟩
          case measure => simp [intOf]; omega
        · have H4 : Hid (owedOfL xs ps = os) := hide (by
            have a := HO.out.1
            have b := HO.out.2.1
            have hzl : (List.zipWith subW ps Q).length ≤ Q.length := by rw [List.length_zipWith]; omega
            rw [List.take_of_length_le (by omega), List.take_of_length_le (by omega)] at b
            rw [H3.out, b])
          go_wp2_with fail
          refine bodyPost_ret (results_tmp rfl _ _ _) rfl ⟨_, rfl, by rw [H4.out]; exact hS, hb⟩

set_option maxRecDepth 100000 in
set_option maxHeartbeats 2000000 in
theorem specOwedOf_any (A B : Option Addr) (c d : Nat) (xs ps : List Int) (w : World) (hA : IntsAt w A xs) (hl : xs.length ≤ 1048576) (hB : IntsAt w B ps) (hm : ps.length ≤ 1048576) :
    Calls Tryd.prog 51 #[.slice A xs.length c, .slice B ps.length d] w fun e w' => ∃ v, e = .returned v ∧ IntSl w' w.heap.size v (owedOfL xs ps) ∧ Below w.heap.size w w' := by
  have hO0 : IntSl (w.alloc (.cells #[] 3)) w.heap.size (.slice (some ⟨w.heap.size, 0, none⟩) 0 0) [] := World.ownsRow_lit w #[] 0 (Nat.le_refl _) (by unfold maxLen; omega) rfl
  have HO0 := hide hO0
  have hba : Below w.heap.size w (w.alloc (.cells #[] 3)) := by go_grown
  have hA0 := hA.below hba
  have hB0 := hB.below hba
  clear hO0
  cases hI : sharesOk xs with
  | false =>
    have HI := hide hI
    have H3 : Hid (owedOfL xs ps = []) := hide (by unfold owedOfL; rw [hI]; rfl)
    clear hI
    go_enter Tryd.func51, Tryd.ntmps51
    go_wp2_with fail
    refine (specSharesValid_any _ _ _ _ hA0 hl).mono ?_
    rintro e w1 ⟨rfl, hB1⟩
    have HP1 := hide (IntSl.below HO0.out hB1)
    have hb1 := next hba hB1
    rw [HI.out]
    go_wp2_with fail
    refine bodyPost_ret (results_tmp rfl _ _ _) rfl ⟨_, rfl, by rw [H3.out]; exact HP1.out, hb1⟩
  | true =>
    have HI := hide hI
    by_cases hpl : ps.length = xs.length
    · have hne : ((ps.length : Int) != (xs.length : Int)) = false := by simp; omega
      have HPL := hide hpl
      have HR : Hid (owedOfL xs ps = if rangeOk 9999 ps = true then List.zipWith subW ps (shareOfL xs (sumW ps)) else []) := hide (by unfold owedOfL paidOk; rw [hI, decide_eq_true (by omega)]; simp)
      have HQL := hide (shareOfL_len xs (sumW ps))
      clear hI hpl
      go_enter Tryd.func51, Tryd.ntmps51
      go_wp2_with fail
      refine (specSharesValid_any _ _ _ _ hA0 hl).mono ?_
      rintro e w1 ⟨rfl, hB1⟩
      have HP1 := hide (IntSl.below HO0.out hB1)
      have hsz0 : w.heap.size < w1.heap.size := by have := hB1.size; simp at this; omega
      have hb1 := next hba hB1
      rw [HI.out]
      clear hA0 hB0 hba hB1
      go_wp2_with fail
      go_loopw [6] (fun i wr => ∃ k : Nat, k ≤ ps.length ∧ i = .int .i64 k ∧ Hid (rangeOk 9999 ps = rangeOk 9999 (ps.drop k)) ∧ wr = w1) (fun i _ => ps.length - (intOf i).toNat)
      case atStart => exact ⟨0, Nat.zero_le _, rfl, hide rfl, rfl⟩
      case round =>
        obtain ⟨k, hk, rfl, HG, rfl⟩ := hrel
        by_cases hlt : k < ps.length
        · obtain ⟨b, off, rfl, hbl, hc1⟩ := (hB.below hb1) k ps[k] (List.getElem?_eq_getElem hlt)
          have HD : Hid (ps.drop k = ps[k] :: ps.drop (k + 1)) := hide (List.drop_eq_getElem_cons hlt)
          generalize ps[k] = p at *
          have hz : (0 : Int) ≤ k := by omega
          have hz2 : (k : Int) < ps.length := by omega
          cases hp : inR p 0 9999 with
          | false =>
            have HQ := hide hp
            have H3 : Hid (owedOfL xs ps = []) := hide (by rw [HR.out, HG.out, HD.out]; unfold rangeOk; rw [List.all_cons, hp]; rfl)
            clear hp
            go_wp2_with fail
            refine (l1In_is _ _ _ _ HQ _).mono ?_
            rintro e wr ⟨rfl, rfl⟩
            go_wp2_with fail
            refine bodyPost_ret (results_tmp rfl _ _ _) rfl ⟨_, rfl, by rw [H3.out]; exact HP1.out, hb1⟩
          | true =>
            have HQ := hide hp
            have H3 : Hid (rangeOk 9999 ps = rangeOk 9999 (ps.drop (k + 1))) := hide (by rw [HG.out, HD.out]; unfold rangeOk; rw [List.all_cons, hp]; rfl)
            clear hp
            go_wp2_with fail
            refine (l1In_is _ _ _ _ HQ _).mono ?_
            rintro e wr ⟨rfl, rfl⟩
            go_wp2_with fail
            go_roundw
            case rel => exact ⟨k + 1, hlt, by go_num, H3, trivial⟩
            case measure => simp [intOf]; omega
        · have H3 : Hid (owedOfL xs ps = List.zipWith subW ps (shareOfL xs (sumW ps))) := hide (by rw [HR.out, HG.out, List.drop_of_length_le (by omega)]; rfl)
          have hsz1 := hb1.size
          go_wp2_with fail
          refine (l1Sum_any _ _ _ _ (hB.below hb1) hm).mono ?_
          rintro e w3 ⟨rfl, rfl⟩
          go_wp2_with fail
          refine (specShareOf_any _ _ _ _ _ (hA.below hb1) hl).mono ?_
          rintro e w4 ⟨v, rfl, hS, hB4⟩
          have hb4 := next hb1 hB4
          obtain ⟨Q, hQ⟩ : ∃ Q, shareOfL xs (sumW ps) = Q := ⟨_, rfl⟩
          rw [hQ] at hS H3 HQL
          obtain ⟨AQ, cq, e, -, hAQ⟩ := hS.form
          subst e
          have HS4 := hide (hS.mono (Nat.zero_le _))
          have HOU := hide (IntSl.below HP1.out hB4)
          have HSEP : Hid ((Value.slice (some ⟨w.heap.size, 0, none⟩) 0 0).ownBlock = none ∨ (Value.slice (some ⟨w.heap.size, 0, none⟩) 0 0).ownBlock ≠ (Value.slice AQ Q.length cq).ownBlock) := hide (.inr (fun e => by
            have e : some w.heap.size = (Value.slice AQ Q.length cq).ownBlock := e
            cases AQ with
            | none => cases e
            | some a =>
              have e : some w.heap.size = some a.block := e
              injection e with e
              have := (hAQ a rfl).1
              omega))
          clear hS hQ hAQ hB4 HP1
          go_wp2_with fail
          go_loopw [5, 8] (fun ov i wr => ∃ (k : Nat) (os : List Int), k ≤ Q.length ∧ i = .int .i64 k ∧ Hid (os = (List.zipWith subW ps Q).take k ∧ os.length = k) ∧ Hid (ov.ownBlock = none ∨ ov.ownBlock ≠ (Value.slice AQ Q.length cq).ownBlock) ∧ IntSl wr w.heap.size ov os ∧ IntSl wr 0 (.slice AQ Q.length cq) Q ∧ Below w.heap.size w wr) (fun _ i _ => Q.length - (intOf i).toNat)
          case atStart => exact ⟨0, [], Nat.zero_le _, rfl, hide ⟨by simp, rfl⟩, HSEP, HOU.out, HS4.out, hb4⟩
          case round =>
            clear HSEP HOU HS4 hb4
            obtain ⟨k, os, hk, rfl, HO, HSEP, hO, hS, hb⟩ := hrel
            have hsz := hb.size
            by_cases hlt : k < Q.length
            · have hkp : k < ps.length := by rw [HPL.out]; have := HQL.out; omega
              obtain ⟨b1, off1, rfl, hbl1, hc1⟩ := (hB.below hb) k ps[k] (List.getElem?_eq_getElem hkp)
              have hb1w : b1 < w.heap.size := by
                obtain ⟨b', off', e, h', _⟩ := hB k ps[k] (List.getElem?_eq_getElem hkp)
                injection e with e
                injection e with e
                omega
              obtain ⟨GQ, cap, e, hg0, hg1⟩ := hS.own (by omega)
              injection e with e1 e2 e3
              clear e2
              subst e1 e3
              have hpe := List.getElem?_eq_getElem hkp
              have hqe := List.getElem?_eq_getElem hlt
              have hcq := hS.cellAt hqe
              generalize ps[k] = p at *
              generalize Q[k] = q at *
              have HO2 : Hid (os ++ [subW p q] = (List.zipWith subW ps Q).take (k + 1) ∧ (os ++ [subW p q]).length = k + 1) := hide ⟨by rw [zip_step hpe hqe, ← HO.out.1], by simp [HO.out.2]⟩
              obtain ⟨z, hz9⟩ : ∃ z, subW p q = z := ⟨_, rfl⟩
              have hw9 : IntKind.i64.wrap (p - q) = z := by rw [← hz9]; unfold subW; first | rfl | (simp [go_sem]) | (rw [IntKind.wrap_i64]; unfold wrap64; omega)
              rw [hz9] at HO2
              clear hz9
              have hol := HO.out.2
              have hne1 : some b1 ≠ u5.ownBlock := fun e => by have := (World.ownsRow.lt hO b1 e.symm).1; omega
              have hne2 : some GQ ≠ u5.ownBlock := fun e => by
                rcases HSEP.out with h | h
                · rw [h] at e; cases e
                · exact h e.symm
              have HF0 : Hid (wr.drew.cell? ⟨b1, off1 + k, none⟩ = some (.int .i64 p) ∧ wr.drew.cell? ⟨GQ, k, none⟩ = some (.int .i64 q)) := hide ⟨hc1, hcq⟩
              have HF1 : Hid ((wr.alloc (.cells #[.int .i64 z] 3)).drew.cell? ⟨b1, off1 + k, none⟩ = some (.int .i64 p) ∧ (wr.alloc (.cells #[.int .i64 z] 3)).drew.cell? ⟨GQ, k, none⟩ = some (.int .i64 q)) := hide ⟨(World.grownBy_alloc wr _ none).cell hc1 (by simp), (World.grownBy_alloc wr _ none).cell hcq (by simp)⟩
              have HF2 : Hid (∀ w', (wr.alloc (.cells #[.int .i64 z] 3)).drew.grownBy w' u5.ownBlock → w'.cell? ⟨b1, off1 + k, none⟩ = some (.int .i64 p) ∧ w'.cell? ⟨GQ, k, none⟩ = some (.int .i64 q)) := hide (fun w' hg => ⟨hg.cell HF1.out.1 hne1, hg.cell HF1.out.2 hne2⟩)
              have HOA : Hid (IntSl (wr.alloc (.cells #[.int .i64 z] 3)).drew w.heap.size u5 os) := hide (World.ownsRow.alloc hO _)
              have HSA : Hid (IntSl (wr.alloc (.cells #[.int .i64 z] 3)).drew 0 (.slice (some ⟨GQ, 0, none⟩) Q.length cq) Q) := hide (World.ownsRow.alloc hS _)
              have HBA := hide (hb.alloc hsz (.cells #[.int .i64 z] 3)).drew
              have HLT := hide (World.ownsRow.lt hO)
              have hz : (0 : Int) ≤ k := by omega
              have hz2 : (k : Int) < Q.length := by omega
              have hz3 : (k : Int) < ps.length := by omega
              clear hpe hqe hne1 hne2 hO hS hc1 hcq
              go_wp2_with fail
              go_region_held3 (fun W => W.cell? ⟨b1, off1 + k, none⟩ = some (.int .i64 p) ∧ W.cell? ⟨GQ, k, none⟩ = some (.int .i64 q))
                (first | exact HF0.out | exact HF1.out | exact HF2.out _ hgrow)
                ((refine step_push_int4 (by rfl) _ _ (by rfl) w.heap.size u5 os (by rfl) HOA.out wr.heap.size z (by rfl) (heap_alloc_new wr _) (by omega) (by simp; omega) ?_; intro gg cap5 w5 hown hgrow hnew))
              all_goals
                have hb5 : Below w.heap.size w w5 := HBA.out.grown hgrow (by simp; omega) (fun k hk => (HLT.out k hk).1)
                have hS5 : IntSl w5 0 (.slice (some ⟨GQ, 0, none⟩) Q.length cq) Q := IntSl.row HSA.out hgrow (.inr (fun e => by
                  have e : some GQ = u5.ownBlock := e
                  rcases HSEP.out with h | h
                  · rw [h] at e; cases e
                  · exact h e.symm))
                rw [hol] at hown
                have HSEP2 : Hid ((Value.slice (some ⟨gg, 0, none⟩) (k + 1) cap5).ownBlock = none ∨ (Value.slice (some ⟨gg, 0, none⟩) (k + 1) cap5).ownBlock ≠ (Value.slice (some ⟨GQ, 0, none⟩) Q.length cq).ownBlock) := hide (.inr (fun e => by
                  have e : some gg = some GQ := e
                  injection e with e
                  rcases hnew with h | h
                  · rcases HSEP.out with h2 | h2
                    · rw [h2] at h; cases h
                    · exact h2 (e ▸ h)
                  · have h6 : gg = wr.heap.size + 1 := by simpa using h
                    omega))
                clear hgrow hnew
                go_wp2_with fail
                go_roundw
                case rel => exact ⟨k + 1, os ++ [z], hlt, by go_num, HO2, HSEP2, hown, hS5, hb5⟩
                case measure => simp [intOf]; omega
            · have H4 : Hid (owedOfL xs ps = os) := hide (by
                have hzl : (List.zipWith subW ps Q).length ≤ Q.length := by rw [List.length_zipWith]; omega
                rw [H3.out, HO.out.1, List.take_of_length_le (by omega)])
              go_wp2_with fail
              refine bodyPost_ret (results_tmp rfl _ _ _) rfl ⟨_, rfl, by rw [H4.out]; exact hO, hb⟩
    · have hne : ((ps.length : Int) != (xs.length : Int)) = true := by simp; omega
      have H3 : Hid (owedOfL xs ps = []) := hide (by unfold owedOfL paidOk; rw [decide_eq_false (by omega)]; simp)
      clear hI
      go_enter Tryd.func51, Tryd.ntmps51
      go_wp2_with fail
      refine (specSharesValid_any _ _ _ _ hA0 hl).mono ?_
      rintro e w1 ⟨rfl, hB1⟩
      have HP1 := hide (IntSl.below HO0.out hB1)
      have hb1 := next hba hB1
      rw [HI.out]
      go_wp2_with fail
      refine bodyPost_ret (results_tmp rfl _ _ _) rfl ⟨_, rfl, by rw [H3.out]; exact HP1.out, hb1⟩
end Go.Proofs.YteocmjffjinphaaDoor
