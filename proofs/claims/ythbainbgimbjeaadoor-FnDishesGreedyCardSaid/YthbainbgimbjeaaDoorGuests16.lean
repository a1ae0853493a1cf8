/- The fewest dishes: the program's table in a map, one dish after the other; contracts of DishesLeast, of the program and of the reference model.
   Conditions: lists have at most 1048576 elements. -/
import Derived.Test.YthbainbgimbjeaaDoorDishMath
import Derived.Test.YthbainbgimbjeaaDoorZ3
import Derived.Test.YthbainbgimbjeaaDoorKeysI
import Derived.Deep.QuietTactic
import Derived.BigQuiet
import Derived.Deep.DeepCutAuto
namespace Go.Proofs.YthbainbgimbjeaaDoor
open Go.RowKit Go.ChangeShapes Go.WideShapes Go.ChangeAt Go.Deep Go.Maps

set_option maxHeartbeats 1000000 in
theorem isFewer_any (a b : Int) (w : World) (h0 : 0 ≤ a) (h1 : a < 64) (k0 : 0 ≤ b) (k1 : b < 64) :
    Calls Tryd.prog 56 #[.int .i64 a, .int .i64 b] w fun e w' => e = .returned (.bool (fewerL a b)) ∧ w = w' := by
  obtain ⟨x, hx⟩ : ∃ x, sz a = x := ⟨_, rfl⟩
  obtain ⟨y, hy⟩ : ∃ y, sz b = y := ⟨_, rfl⟩
  have HA := hide (sizeOf_any a w h0 (by omega))
  have HB := hide (sizeOf_any b w k0 (by omega))
  have HX := hide hx
  have HY := hide hy
  by_cases h : x < y
  · have H3 : Hid (fewerL a b = true) := hide (by unfold fewerL; rw [hx, hy, decide_eq_true h]; rfl)
    clear hx hy
    go_enter Tryd.func56, Tryd.ntmps56
    go_wp2_with fail
    refine HA.out.mono ?_
    rintro e w1 ⟨rfl, rfl⟩
    rw [HX.out]
    go_wp2_with fail
    refine HB.out.mono ?_
    rintro e w1 ⟨rfl, rfl⟩
    rw [HY.out]
    go_wp2_with fail
    go_ret
    exact ⟨by rw [H3.out]; rfl, rfl⟩
  · by_cases hxy : x = y
    · have hq : (x == y) = true := by simp [hxy]
      have hd : decide (x < y) = false := decide_eq_false h
      have H3 : Hid (fewerL a b = decide (a < b)) := hide (by unfold fewerL; rw [hx, hy, decide_eq_false h, decide_eq_true hxy]; rfl)
      clear hx hy hxy h
      go_enter Tryd.func56, Tryd.ntmps56
      go_wp2_with fail
      refine HA.out.mono ?_
      rintro e w1 ⟨rfl, rfl⟩
      rw [HX.out]
      go_wp2_with fail
      refine HB.out.mono ?_
      rintro e w1 ⟨rfl, rfl⟩
      rw [HY.out]
      go_wp2_with fail
      refine HA.out.mono ?_
      rintro e w1 ⟨rfl, rfl⟩
      rw [HX.out]
      go_wp2_with fail
      refine HB.out.mono ?_
      rintro e w1 ⟨rfl, rfl⟩
      rw [HY.out]
      go_wp2_with fail
      go_ret
      exact ⟨by rw [H3.out]; rfl, rfl⟩
    · have hq : (x == y) = false := beq_false_of_ne hxy
      have hd : decide (x < y) = false := decide_eq_false h
      have H3 : Hid (fewerL a b = false) := hide (by unfold fewerL; rw [hx, hy, decide_eq_false h, decide_eq_false hxy]; rfl)
      clear hx hy hxy h
      go_enter Tryd.func56, Tryd.ntmps56
      go_wp2_with fail
      refine HA.out.mono ?_
      rintro e w1 ⟨rfl, rfl⟩
      rw [HX.out]
      go_wp2_with fail
      refine HB.out.mono ?_
      rintro e w1 ⟨rfl, rfl⟩
      rw [HY.out]
      go_wp2_with fail
      refine HA.out.mono ?_
      rintro e w1 ⟨rfl, rfl⟩
      rw [HX.out]
      go_wp2_with fail
      refine HB.out.mono ?_
      rintro e w1 ⟨rfl, rfl⟩
      rw [HY.out]
      go_wp2_with fail
      go_ret
      exact ⟨by rw [H3.out]; rfl, rfl⟩

def litJ (x : Int) : Lit := .int .i64 x
theorem litJ_key (x : Int) : WideAt.IsKeyLit (litJ x) := by unfold litJ; simp [WideAt.IsKeyLit]
theorem litJ_ne {x y : Int} (h : x ≠ y) : litJ x ≠ litJ y := fun e => h (by unfold litJ at e; injection e)
theorem litJ_wf {x : Int} (h0 : 0 ≤ x) (h1 : x < 64) : (Lit.int .i64 x).wf = true := by
  obtain ⟨n, rfl⟩ : ∃ n : Nat, x = n := ⟨x.toNat, by omega⟩
  have : ∀ n : Fin 64, (Lit.int .i64 (n.val : Int)).wf = true := by decide +kernel
  exact this ⟨n, by omega⟩
/-- The datum of a map of numbers is this function. -/
structure RepM (D : DataW Unit) (M : Int → Option Int) : Prop where
  tidy : Tidy D
  has : ∀ S, Maps.has D (litJ S) = (M S).isSome
  at_ : ∀ S, D.atKey (litJ S) (.lit (.int .i64 0)) = .lit (.int .i64 ((M S).getD 0))
theorem RepM.empty : RepM (.map []) (fun _ => none) := ⟨tidy_empty, fun _ => rfl, fun _ => rfl⟩
theorem RepM.put {D : DataW Unit} {M : Int → Option Int} (h : RepM D M) (S d : Int) : RepM (D.put (litJ S) (.lit (.int .i64 d))) (putM M S d) := by
  refine ⟨h.tidy.put (litJ_key S) _, fun S' => ?_, fun S' => ?_⟩
  · unfold putM
    by_cases e : S' = S
    · subst e
      rw [if_pos rfl, has_put_same h.tidy.isMap (litJ_key S')]
      rfl
    · rw [if_neg e, has_put_other (litJ_ne e), h.has]
  · unfold putM
    by_cases e : S' = S
    · subst e
      rw [if_pos rfl, atKey_put_same h.tidy.isMap (litJ_key S')]
      rfl
    · rw [if_neg e, atKey_put_other (litJ_ne e), h.at_]
theorem own_size {w : World} {P : Program} {k : TypeId} {R : Value → Option (DataW Unit × List MemPlace)} {b n : Nat} {D : DataW Unit} (h : w.ownsMap P k R b n D) : Maps.size D ≤ n := by
  obtain ⟨es, clock, _, _, hs, rfl⟩ := h
  show ((es.toList.map _).foldr DataW.insert []).length ≤ n
  rw [length_sorted]
  simpa using hs
theorem own_keys {w : World} {R : Value → Option (DataW Unit × List MemPlace)} {b n : Nat} {D : DataW Unit} (h : w.ownsMap Tryd.prog 3 R b n D) (x : Int) : x ∈ intKeys D ↔ Maps.has D (litJ x) = true := by
  obtain ⟨es, rfl, hko⟩ := h.keysOf
  rw [has_eq, List.any_eq_true]
  show x ∈ es.map (fun p => Go.intOf p.1) ↔ _
  rw [List.mem_map]
  constructor
  · rintro ⟨p, hp, rfl⟩
    obtain ⟨v, hv⟩ := hko p hp
    obtain ⟨y, _, hy, _⟩ := Maps.keyOf_i64 Tryd.underlying3 hv
    refine ⟨p, hp, ?_⟩
    rw [hy]
    exact WideAt.sameKey_self (litJ_key y)
  · rintro ⟨p, hp, hs⟩
    refine ⟨p, hp, ?_⟩
    rw [WideAt.sameKey_eq hs]
    rfl
theorem own_below {w w' : World} {P : Program} {k : TypeId} {R : Value → Option (DataW Unit × List MemPlace)} {b n : Nat} {D : DataW Unit} (h : w.ownsMap P k R b n D) (hB : Below w.heap.size w w') : w'.ownsMap P k R b n D := by
  have hl := h.lt
  obtain ⟨es, clock, hb, r⟩ := h
  exact ⟨es, clock, (hB.block b hl).trans hb, r⟩

theorem wpList_insert_ownI {H : Type} {P : Program} (w : World) {ops : Array Oper} {rest : List Oper} {o : Oper} {a : Act} {Q : Exit → Act → World → Prop}
    (hg : o.guard = none) (m x v : Operand) (t : TypeId) (hop : o.op = Op.insert t m x v)
    (k e : TypeId) (K : Keyed P k) (ht : P.underlying t = some (.map k e)) (R : Value → Option (DataW H × List MemPlace)) (b n : Nat) (D : DataW H)
    (hm : a.eval m = .map (some b)) (hown : w.ownsMap P k R b n D) (hn : n < maxLen) (key val : Value) (kl : Lit) (hx : a.eval x = key) (hv : a.eval v = val) (hkey : keyOf P k key = some kl)
    (d : DataW H) (ps : List MemPlace) (hval : R val = some (d, ps))
    (hK : ∀ w', w'.ownsMap P k R b (n + 1) (D.put kl d) → w.grownBy w' (some b) → wpList P ops Q rest (a.put o.dst undef) w') :
    wpList P ops Q (o :: rest) a w := by
  refine wpList_plain hg fun K' hK' => ?_
  obtain ⟨w', hrun, r1, r2⟩ := hown.update K ht hn hkey hval
  unfold Oper.wp
  simp [execOp, hop, hm, hx, hv, hrun, Result.andThen]
  exact hK' _ _ (hK w' r1 r2)

theorem lawJ : Keyed Tryd.prog 3 := int_keyed Tryd.underlying3
theorem keyJ {x : Int} (h0 : 0 ≤ x) (h1 : x < 64) : keyOf Tryd.prog 3 (.int .i64 x) = some (litJ x) := keyOf_int_mk Tryd.underlying3 (litJ_wf h0 h1)
theorem elemJ {x : Int} (h0 : 0 ≤ x) (h1 : x < 64) : plainElem (H := Unit) Tryd.prog 3 (.int .i64 x) = some (.lit (.int .i64 x), []) := plainElem_int Tryd.underlying3 (litJ_wf h0 h1)

def Fewest (m : List Int) (w : World) (e : Ending) (w' : World) : Prop := ∃ (b nn : Nat) (D : DataW Unit) (M : Int → Option Int), e = .returned (.map (some b)) ∧ w'.ownsMap Tryd.prog 3 (plainElem Tryd.prog 3) b nn D ∧ RepM D M ∧ Table keyD m m.length M ∧ Below w.heap.size w w'

set_option maxRecDepth 100000 in
set_option maxHeartbeats 4000000 in
theorem fewest_any (A : Option Addr) (c : Nat) (m : List Int) (w : World) (hA : IntsAt w A m) (hl : m.length ≤ 6) (HM : Hid (∀ x ∈ m, 0 ≤ x ∧ x < 64)) :
    Calls Tryd.prog 35 #[.slice A m.length c] w (Fewest m w) := by
  have hmm := @run_makeMap Tryd.prog
  have HO0 : Hid ((w.alloc (.map #[] 0)).ownsMap Tryd.prog 3 (plainElem (H := Unit) Tryd.prog 3) w.heap.size 0 (.map [])) := hide (World.ownsMap_made _ _ _ _)
  have hk0 := keyJ (x := 0) (by omega) (by omega)
  have he0 := elemJ (x := 0) (by omega) (by omega)
  go_enter Tryd.func35, Tryd.ntmps35
  go_wp2_with ((refine wpList_insert_ownI _ rfl _ _ _ 49 rfl 3 3 lawJ Tryd.underlying49 (plainElem (H := Unit) Tryd.prog 3) w.heap.size 0 (.map []) rfl HO0.out (by unfold maxLen; omega) _ _ _ rfl rfl hk0 _ [] he0 ?_); intro w1 hown1 hgrow1)
  have HOW := hide hown1
  have hb1 : Below w.heap.size w w1 := ((Below.refl _ w).alloc (Nat.le_refl _) _).grown hgrow1 (by simp) (fun j hj => by cases hj; exact Nat.le_refl _)
  have HR1 : Hid (RepM ((DataW.map [] : DataW Unit).put (litJ 0) (.lit (.int .i64 0))) (fun x => if x = 0 then some 0 else none)) := hide (RepM.empty.put 0 0)
  have HT1 := hide (Table.start keyD m)
  clear hown1 hgrow1 hmm HO0 hk0 he0
  go_wp2_with fail
  go_loopw [15] (fun iv wr => ∃ (i nn : Nat) (D : DataW Unit) (M : Int → Option Int), i ≤ m.length ∧ iv = .int .i64 (i : Int) ∧ Hid (nn ≤ 2 ^ i) ∧ wr.ownsMap Tryd.prog 3 (plainElem Tryd.prog 3) w.heap.size nn D ∧ Hid (RepM D M ∧ Table keyD m i M) ∧ Below w.heap.size w wr ∧ w.heap.size < wr.heap.size) (fun iv _ => m.length - (intOf iv).toNat)
  case atStart => exact ⟨0, 1, _, _, Nat.zero_le _, rfl, hide (by decide), HOW.out, hide ⟨HR1.out, HT1.out⟩, hb1, HOW.out.lt⟩
  case round =>
    clear HOW HR1 HT1 hb1
    obtain ⟨i, nn, D, M, hi, rfl, HNN, hown, HF, hb, hlt0⟩ := hrel
    have hnn64 : nn ≤ 64 := Nat.le_trans HNN.out (Nat.pow_le_pow_right (n := 2) (by omega) (show i ≤ 6 by omega))
    have hsz := hb.size
    by_cases hlt : i < m.length
    · have hi6 : i < 6 := by omega
      have he := List.getElem?_eq_getElem hlt
      obtain ⟨b0, off, rfl, hbl, hc1⟩ := (hA.below hb) i m[i] he
      have hem := HM.out _ (List.getElem_mem hlt)
      have HE := hide he
      generalize m[i] = e at *
      obtain ⟨e0, e1⟩ := hem
      have hz : (0 : Int) ≤ i := by omega
      have hz2 : (i : Int) < m.length := by omega
      have hsd := own_size hown
      have HK := hide (own_keys hown)
      have HSO := hide (sortedI_sl w.heap.size nn D _ wr hown (by omega))
      have HOW := hide hown
      clear hown he
      go_wp2_with fail
      refine (keysI_any _ _).mono ?_
      rintro e5 w5 ⟨rfl, rfl⟩
      go_wp2_with fail
      refine HSO.out.mono ?_
      rintro e6 w6 ⟨v, ts, rfl, hts, htl, hS6, hB6⟩
      have hown6 := own_below HOW.out hB6
      obtain ⟨At, ct, rfl, -, -⟩ := hS6.form
      have hb6 := next hb hB6
      have HTS : Hid (∀ T ∈ ts, (M T).isSome = true) := hide (fun T hT => by rw [← HF.out.1.has]; exact (HK.out T).1 ((hts T).1 hT))
      have HTA : Hid (∀ T, (M T).isSome = true → T ∈ ts) := hide (fun T hT => (hts T).2 ((HK.out T).2 (by rw [HF.out.1.has]; exact hT)))
      have HMS := hide (MidT.start (K := keyD) hi6 HE.out HF.out.2)
      have HO6 := hide hown6
      have HS6 := hide hS6
      have hl6 : w.heap.size < w6.heap.size := Nat.lt_of_lt_of_le hlt0 hB6.size
      have htl2 : ts.length ≤ nn := Nat.le_trans htl hsd
      obtain ⟨w0, rfl⟩ : ∃ w0 : World, w0 = wr := ⟨_, rfl⟩
      clear HSO HK hts hown6 hS6 hB6 HOW
      go_wp2_with fail
      go_loopw [24] (fun jv wi => ∃ (j n2 : Nat) (D2 : DataW Unit) (M2 : Int → Option Int), j ≤ ts.length ∧ jv = .int .i64 (j : Int) ∧ n2 ≤ nn + j ∧ wi.ownsMap Tryd.prog 3 (plainElem Tryd.prog 3) w.heap.size n2 D2 ∧ Hid (RepM D2 M2 ∧ MidT keyD m i e M (ts.take j) M2) ∧ IntSl wi w0.heap.size (.slice At ts.length ct) ts ∧ Below w.heap.size w wi ∧ w.heap.size < wi.heap.size) (fun jv _ => ts.length - (intOf jv).toNat)
      case atStart => exact ⟨0, nn, D, M, Nat.zero_le _, rfl, by omega, HO6.out, hide ⟨HF.out.1, HMS.out⟩, HS6.out, hb6, hl6⟩
      case round =>
        clear HO6 HMS HS6 hb6 hl6
        obtain ⟨j, n2, D2, M2, hj, rfl, hn2, hown, HF2, hS, hb9, hl9⟩ := hrel
        have hsz9 := hb9.size
        by_cases hjt : j < ts.length
        · have hTj := List.getElem?_eq_getElem hjt
          obtain ⟨T, hT⟩ : ∃ T, ts[j] = T := ⟨_, rfl⟩
          have HTK : Hid (ts.take (j + 1) = ts.take j ++ [T]) := hide (by rw [List.take_succ_eq_append_getElem hjt, hT])
          rw [hT] at hTj
          obtain ⟨d, hd⟩ := Option.isSome_iff_exists.1 (HTS.out T (List.mem_of_getElem? hTj))
          obtain ⟨cc, hcc, -⟩ := HF2.out.2.old T d hd
          have hC := HF2.out.2.cand T cc hcc
          have hTr := table_rng HM.out HF2.out.2.cand hcc
          obtain ⟨hNc, hc0, hcp⟩ := HF2.out.2.cand_new hi6 HE.out HM.out hcc
          have hp64 := pow_le64 (i := i + 1) (by omega)
          have hc64 : cc < 64 := by omega
          have HST := hide (MidT.step keyD_low keyD_F hi6 HE.out HM.out HF.out.2 HF2.out.2 hcc)
          have hn0 := hNc.1
          have hn1 : orI cc (2 ^ i) < 64 := by have := hNc.2.1; omega
          obtain ⟨hT0, hT1⟩ := hTr
          have hSr := orI_lt (a := T) (b := e) hT1 e1
          have hlook : ∀ N, (Instr.lookup 49 (.map (some w.heap.size)) (.int .i64 T) false).run Tryd.prog (wr.drewN N) = .ok (.int .i64 cc) (wr.drewN N) := fun N => by
            have hoN : (wr.drewN N).ownsMap Tryd.prog 3 (plainElem Tryd.prog 3) w.heap.size n2 D2 := hown
            obtain ⟨c', hrun, hat, -⟩ := hoN.lookup_int lawJ Tryd.underlying49 Tryd.underlying3 (Tryd.zeroValue3 _) (keyJ hT0 hT1)
            rw [HF2.out.1.at_, hcc] at hat
            have hat : cc = c' := by
              have hat := hat
              simp only [Option.getD_some] at hat
              injection hat with hat
              injection hat
            rw [hat]
            exact hrun
          have HLK := hide hlook
          obtain ⟨bt, offt, hAt, hblt, hct⟩ := hS.ints j T hTj
          subst hAt
          have hpw := pow_range i (by omega)
          have hw1 : IntKind.i64.wrap (2 ^ i) = 2 ^ i := IntWalk.i64_in _ (by omega)
          have hor : bits .or .i64 cc (2 ^ i) = orI cc (2 ^ i) := or_all' _ _ hc0 hc64 (by omega) hpw.2
          have HOR2 : Hid (bits .or .i64 T e = orI T e) := hide (or_all' _ _ hT0 hT1 e0 e1)
          obtain ⟨S, hSe⟩ : ∃ S, orI T e = S := ⟨_, rfl⟩
          obtain ⟨nd, hnd⟩ : ∃ nd, orI cc (2 ^ i) = nd := ⟨_, rfl⟩
          rw [hSe] at hSr HOR2 HST
          rw [hnd] at hn0 hn1 hor HST
          have hkS := keyJ hSr.1 hSr.2
          have heN := elemJ hn0 hn1
          have hkz : (0 : Int) ≤ j := by omega
          have hkz2 : (j : Int) < ts.length := by omega
          have HOW := hide hown
          have HSS := hide hS
          have HB := hide hb9
          clear hlook hTj hd hcc hC hNc hcp hT hSe hnd hown hS hb9
          go_upto_region 8 with fail
          have hlook := HLK.out
          go_quiet (fail)
          clear hlook
          obtain ⟨w2, hw2⟩ : ∃ w2, wr.drewN nq = w2 := ⟨_, rfl⟩
          have HOW2 : Hid (w2.ownsMap Tryd.prog 3 (plainElem (H := Unit) Tryd.prog 3) w.heap.size n2 D2) := hide (by rw [← hw2]; exact HOW.out)
          have HSS2 : Hid (IntSl w2 w0.heap.size (.slice (some ⟨bt, offt, none⟩) ts.length ct) ts) := hide (by rw [← hw2]; exact HSS.out)
          have HB2 : Hid (Below w.heap.size w w2) := hide (by rw [← hw2]; exact below_drewN HB.out _)
          have hl2 : w.heap.size < w2.heap.size := by rw [← hw2]; simpa using hl9
          rw [hw2]
          clear hw2 HOW HSS HB hw1 hor hct
          have hor2 := HOR2.out
          cases hMS : M2 S with
          | none =>
            have hhas : Maps.has D2 (litJ S) = false := by rw [HF2.out.1.has, hMS]; rfl
            have HN2 : Hid (RepM (D2.put (litJ S) (.lit (.int .i64 nd))) (putM M2 S nd) ∧ MidT keyD m i e M (ts.take (j + 1)) (putM M2 S nd)) := hide ⟨HF2.out.1.put S nd, by rw [HTK.out]; exact HST.out.1 (.inl (by rw [hMS]; rfl))⟩
            clear hMS
            go_wp2_with (first
              | (at_lookup; refine wpList_lookup_own_ok_int _ rfl _ _ 49 rfl 3 3 .i64 lawJ Tryd.underlying49 Tryd.underlying3 (Tryd.zeroValue3 _) w.heap.size n2 D2 rfl HOW2.out _ _ rfl hkS ?_; intro c2 hat hwf; rw [hhas]; clear hat hwf)
              | (at_mapUpdate; refine wpList_mapUpdate_own _ rfl _ _ _ 49 rfl 3 3 lawJ Tryd.underlying49 (plainElem (H := Unit) Tryd.prog 3) w.heap.size n2 D2 rfl HOW2.out (by unfold maxLen; omega) _ _ _ rfl rfl hkS _ [] heN ?_; intro w9 hown9 hgrow9))
            have hb10 : Below w.heap.size w w9 := HB2.out.grown hgrow9 HB2.out.size (fun q hq => by cases hq; exact Nat.le_refl _)
            have hs10 : IntSl w9 w0.heap.size (.slice (some ⟨bt, offt, none⟩) ts.length ct) ts := IntSl.row HSS2.out hgrow9 (by
              cases ho : (Value.slice (some ⟨bt, offt, none⟩) ts.length ct).ownBlock with
              | none => exact .inl rfl
              | some q => exact .inr (fun h => by injection h with h; have := (World.ownsRow.lt HSS2.out q ho).1; omega))
            have hl10 : w.heap.size < w9.heap.size := Nat.lt_of_lt_of_le hl2 hgrow9.size
            have HO10 := hide hown9
            clear hown9 hgrow9 hor2
            go_wp2_with fail
            go_roundw
            case rel => exact ⟨j + 1, n2 + 1, _, _, hjt, by go_num, by omega, HO10.out, HN2, hs10, hb10, hl10⟩
            case measure => simp [intOf]; omega
          | some bb =>
            have hhas : Maps.has D2 (litJ S) = true := by rw [HF2.out.1.has, hMS]; rfl
            have HAT : Hid (∀ c2, D2.atKey (litJ S) (.lit (.int .i64 0)) = .lit (.int .i64 c2) → bb = c2) := hide (fun c2 hat => by
              rw [HF2.out.1.at_, hMS] at hat
              simp only [Option.getD_some] at hat
              injection hat with hat
              injection hat)
            have hbC := HF2.out.2.cand S bb hMS
            have hb0 := hbC.1
            have hb64 : bb < 64 := by have := hbC.2.1; omega
            have HIF := hide (isFewer_any nd bb w2 hn0 hn1 hb0 hb64)
            cases hfw : fewerL nd bb with
            | true =>
              have HN2 : Hid (RepM (D2.put (litJ S) (.lit (.int .i64 nd))) (putM M2 S nd) ∧ MidT keyD m i e M (ts.take (j + 1)) (putM M2 S nd)) := hide ⟨HF2.out.1.put S nd, by rw [HTK.out]; exact HST.out.1 (.inr (by rw [hMS]; exact hfw))⟩
              have HFW := hide hfw
              clear hMS hfw hbC
              go_wp2_with (at_lookup; refine wpList_lookup_own_ok_int _ rfl _ _ 49 rfl 3 3 .i64 lawJ Tryd.underlying49 Tryd.underlying3 (Tryd.zeroValue3 _) w.heap.size n2 D2 rfl HOW2.out _ _ rfl hkS ?_; intro c2 hat hwf; rw [hhas]; (have hq9 : bb = c2 := HAT.out c2 hat); clear hat hwf; subst hq9)
              refine HIF.out.mono ?_
              rintro e8 w8 ⟨rfl, rfl⟩
              rw [HFW.out]
              go_wp2_with (at_mapUpdate; refine wpList_mapUpdate_own _ rfl _ _ _ 49 rfl 3 3 lawJ Tryd.underlying49 (plainElem (H := Unit) Tryd.prog 3) w.heap.size n2 D2 rfl HOW2.out (by unfold maxLen; omega) _ _ _ rfl rfl hkS _ [] heN ?_; intro w9 hown9 hgrow9)
              have hb10 : Below w.heap.size w w9 := HB2.out.grown hgrow9 HB2.out.size (fun q hq => by cases hq; exact Nat.le_refl _)
              have hs10 : IntSl w9 w0.heap.size (.slice (some ⟨bt, offt, none⟩) ts.length ct) ts := IntSl.row HSS2.out hgrow9 (by
                cases ho : (Value.slice (some ⟨bt, offt, none⟩) ts.length ct).ownBlock with
                | none => exact .inl rfl
                | some q => exact .inr (fun h => by injection h with h; have := (World.ownsRow.lt HSS2.out q ho).1; omega))
              have hl10 : w.heap.size < w9.heap.size := Nat.lt_of_lt_of_le hl2 hgrow9.size
              have HO10 := hide hown9
              clear hown9 hgrow9 hor2
              go_wp2_with fail
              go_roundw
              case rel => exact ⟨j + 1, n2 + 1, _, _, hjt, by go_num, by omega, HO10.out, HN2, hs10, hb10, hl10⟩
              case measure => simp [intOf]; omega
            | false =>
              have HN2 : Hid (RepM D2 M2 ∧ MidT keyD m i e M (ts.take (j + 1)) M2) := hide ⟨HF2.out.1, by rw [HTK.out]; exact HST.out.2 ⟨by rw [hMS]; rfl, by rw [hMS]; exact hfw⟩⟩
              have HFW := hide hfw
              clear hMS hfw hbC
              go_wp2_with (at_lookup; refine wpList_lookup_own_ok_int _ rfl _ _ 49 rfl 3 3 .i64 lawJ Tryd.underlying49 Tryd.underlying3 (Tryd.zeroValue3 _) w.heap.size n2 D2 rfl HOW2.out _ _ rfl hkS ?_; intro c2 hat hwf; rw [hhas]; (have hq9 : bb = c2 := HAT.out c2 hat); clear hat hwf; subst hq9)
              refine HIF.out.mono ?_
              rintro e8 w8 ⟨rfl, rfl⟩
              rw [HFW.out]
              clear hor2
              go_wp2_with fail
              go_roundw
              case rel => exact ⟨j + 1, n2, D2, M2, hjt, by go_num, by omega, HOW2.out, HN2, HSS2.out, HB2.out, hl2⟩
              case measure => simp [intOf]; omega
        · have hjt2 : ¬ (j : Int) < ts.length := by omega
          have HTD := hide (HF2.out.2.done keyD_low hi6 HE.out HF.out.2 (fun T hT => by
            have := HTA.out T hT
            rwa [List.take_of_length_le (by omega)]))
          have HOW := hide hown
          clear hown hS
          go_wp2_with fail
          go_roundw
          case rel => exact ⟨i + 1, n2, D2, M2, hlt, by go_num, hide (by have := HNN.out; rw [Nat.pow_succ]; omega), HOW.out, hide ⟨HF2.out.1, HTD.out⟩, hb9, hl9⟩
          case measure => simp [intOf]; omega
    · obtain rfl : i = m.length := by omega
      have hz2 : ¬ ((m.length : Int) < m.length) := by omega
      have HOW := hide hown
      clear hown
      go_wp2_with fail
      refine bodyPost_ret (results_tmp rfl _ _ _) rfl ⟨_, nn, D, M, rfl, HOW.out, HF.out.1, HF.out.2, hb⟩

theorem dishesLeastL_rng (g : Int) (m : List Int) : -1 ≤ dishesLeastL g m ∧ dishesLeastL g m < 64 := by
  unfold dishesLeastL
  split
  · rename_i hM
    have hl := menuOk_len hM
    have hp := pow_le64 hl
    have hc := pow_cast m.length
    rcases leastTo_spec g m (2 ^ m.length) (by omega) with ⟨a, b⟩ | ⟨d, a, b, c, e⟩
    · omega
    · omega
  · omega

set_option maxRecDepth 100000 in
set_option maxHeartbeats 1000000 in
theorem implDishesLeast_any (g : Int) (A : Option Addr) (c : Nat) (m : List Int) (w : World) (hA : IntsAt w A m) (hl : m.length ≤ 1048576) :
    Calls Tryd.prog 12 #[.int .i64 g, .slice A m.length c] w fun e w' => e = .returned (.int .i64 (dishesLeastL g m)) ∧ Below w.heap.size w w' := by
  cases hM : menuOk g m with
  | false =>
    have HI := hide hM
    have H3 : Hid (dishesLeastL g m = -1) := hide (by unfold dishesLeastL; rw [hM]; rfl)
    clear hM
    go_enter Tryd.func12, Tryd.ntmps12
    go_wp2_with fail
    refine (implMenuValid_any _ _ _ _ _ hA hl).mono ?_
    rintro e w1 ⟨rfl, hB1⟩
    rw [HI.out]
    go_wp2_with fail
    go_ret
    exact ⟨by rw [H3.out]; rfl, hB1⟩
  | true =>
    have HI := hide hM
    have hg := menuOk_g hM
    have hfr := full_range hg.1 hg.2
    have h6 := menuOk_len hM
    have HME : Hid (∀ x ∈ m, 0 ≤ x ∧ x < 64) := hide (fun x hx => by have := menuOk_at hM hx; omega)
    have hkF := keyJ hfr.1 hfr.2
    clear hM
    go_enter Tryd.func12, Tryd.ntmps12
    go_wp2_with fail
    refine (implMenuValid_any _ _ _ _ _ hA hl).mono ?_
    rintro e w1 ⟨rfl, hB1⟩
    rw [HI.out]
    go_wp2_with fail
    refine (fewest_any _ _ _ _ (hA.below hB1) h6 HME).mono ?_
    rintro e w2 ⟨b, nn, D, M, rfl, hown, hrep, htab, hB2⟩
    have hb2 := next hB1 hB2
    have HTL := hide (table_least HI.out htab)
    have HR := hide hrep
    have HOW := hide hown
    clear hB2 htab hrep hown
    go_wp2_with fail
    refine (allGuests_any _ _ hg.1 hg.2).mono ?_
    rintro e w3 ⟨rfl, rfl⟩
    cases hMS : M (full g) with
    | none =>
      have hhas : Maps.has D (litJ (full g)) = false := by rw [HR.out.has, hMS]; rfl
      have H3 : Hid (dishesLeastL g m = -1) := hide (by rw [← HTL.out, hMS]; rfl)
      clear hMS
      go_wp2_with (at_lookup; refine wpList_lookup_own_ok_int _ rfl _ _ 49 rfl 3 3 .i64 lawJ Tryd.underlying49 Tryd.underlying3 (Tryd.zeroValue3 _) b nn D rfl HOW.out _ _ rfl hkF ?_; intro c2 hat hwf; rw [hhas]; clear hat hwf)
      go_ret
      exact ⟨by rw [H3.out]; rfl, hb2⟩
    | some bb =>
      have hhas : Maps.has D (litJ (full g)) = true := by rw [HR.out.has, hMS]; rfl
      have HAT : Hid (∀ c2, D.atKey (litJ (full g)) (.lit (.int .i64 0)) = .lit (.int .i64 c2) → bb = c2) := hide (fun c2 hat => by
        rw [HR.out.at_, hMS] at hat
        simp only [Option.getD_some] at hat
        injection hat with hat
        injection hat)
      have H3 : Hid (dishesLeastL g m = bb) := hide (by rw [← HTL.out, hMS]; rfl)
      clear hMS
      go_wp2_with (at_lookup; refine wpList_lookup_own_ok_int _ rfl _ _ 49 rfl 3 3 .i64 lawJ Tryd.underlying49 Tryd.underlying3 (Tryd.zeroValue3 _) b nn D rfl HOW.out _ _ rfl hkF ?_; intro c2 hat hwf; rw [hhas]; (have hq9 : bb = c2 := HAT.out c2 hat); clear hat hwf; subst hq9)
      go_ret
      exact ⟨by rw [H3.out]; rfl, hb2⟩

set_option maxRecDepth 100000 in
set_option maxHeartbeats 4000000 in
theorem specDishesLeast_any (g : Int) (A : Option Addr) (c : Nat) (m : List Int) (w : World) (hA : IntsAt w A m) (hl : m.length ≤ 1048576) :
    Calls Tryd.prog 16 #[.int .i64 g, .slice A m.length c] w fun e w' => e = .returned (.int .i64 (dishesLeastL g m)) ∧ Below w.heap.size w w' := by
  cases hM : menuOk g m with
  | false =>
    have HI := hide hM
    have H3 : Hid (dishesLeastL g m = -1) := hide (by unfold dishesLeastL; rw [hM]; rfl)
    obtain ⟨K9, hK9⟩ : ∃ K9, wrap64 (2 ^ min m.length 64) = K9 := ⟨_, rfl⟩
    clear hM
    go_enter Tryd.func16, Tryd.ntmps16
    go_wp2_with fail
    go_loopw [5, 6] (fun bv iv wr => bv = .int .i64 (-1) ∧ iv = .int .i64 0 ∧ wr = w) (fun _ _ _ => 0)
    case atStart => exact ⟨rfl, rfl, rfl⟩
    case round =>
      obtain ⟨rfl, rfl, rfl⟩ := hrel
      by_cases hk : 0 < K9
      · have hd : decide (0 < K9) = true := decide_eq_true hk
        go_wp2_with fail
        refine (specMenuValid_any _ _ _ _ _ hA hl).mono ?_
        rintro e w1 ⟨rfl, hB1⟩
        rw [HI.out]
        go_wp2_with fail
        go_ret
        exact ⟨by rw [H3.out]; rfl, hB1⟩
      · have hd : decide (0 < K9) = false := decide_eq_false hk
        go_wp2_with fail
        go_ret
        exact ⟨by rw [H3.out]; rfl, Below.refl _ _⟩
  | true =>
    have HI := hide hM
    have hg := menuOk_g hM
    have h6 := menuOk_len hM
    have hp := pow_le64 h6
    have hc := pow_cast m.length
    have H0 : Hid (dishesLeastL g m = leastTo g m (2 ^ m.length)) := hide (by unfold dishesLeastL; rw [hM]; rfl)
    obtain ⟨N, hN⟩ : ∃ N : Nat, 2 ^ m.length = N := ⟨_, rfl⟩
    have hN64 : N ≤ 64 := by omega
    have hpw : (2 : Int) ^ m.length = N := by rw [← hN]; simp
    rw [hN] at H0
    have hK9 : wrap64 (2 ^ min m.length 64) = (N : Int) := by rw [Nat.min_eq_left (by omega), wrap_pow6 _ h6, hpw]
    clear hM hc hp hN
    go_enter Tryd.func16, Tryd.ntmps16
    go_wp2_with fail
    go_loopw [5, 6] (fun bv iv wr => ∃ (k : Nat) (t : Int), k ≤ N ∧ iv = .int .i64 (k : Int) ∧ bv = .int .i64 t ∧ -1 ≤ t ∧ t < 64 ∧ Hid (t = leastTo g m k) ∧ Below w.heap.size w wr) (fun _ iv _ => N - (intOf iv).toNat)
    case atStart => exact ⟨0, -1, Nat.zero_le _, rfl, rfl, by omega, by omega, hide rfl, Below.refl _ _⟩
    case round =>
      obtain ⟨k, t, hk, rfl, rfl, ht0, ht1, HT, hb⟩ := hrel
      have hsz := hb.size
      have hz : (0 : Int) ≤ k := by omega
      by_cases hkt : k < N
      · have hd : decide ((k : Int) < N) = true := decide_eq_true (by omega)
        obtain ⟨f, hf⟩ : ∃ f, feedsL g m k = f := ⟨_, rfl⟩
        have HF := hide hf
        have hkr := sz_range (x := (k : Int)) hz (by omega)
        obtain ⟨x, hx⟩ : ∃ x, sz (k : Int) = x := ⟨_, rfl⟩
        rw [hx] at hkr
        have HX := hide hx
        clear hf hx
        go_wp2_with fail
        refine (specMenuValid_any _ _ _ _ _ (hA.below hb) hl).mono ?_
        rintro e w1 ⟨rfl, hB1⟩
        rw [HI.out]
        have hb1 := next hb hB1
        clear hB1
        go_wp2_with fail
        refine (specFeedsAll_any _ _ _ _ _ _ (hA.below hb1) hl).mono ?_
        rintro e w2 ⟨rfl, hB2⟩
        rw [HF.out]
        have hb2 := next hb1 hB2
        clear hB2 hb1 hb
        cases f with
        | false =>
          have HT2 : Hid (t = leastTo g m (k + 1)) := hide (by rw [leastTo, HF.out, ← HT.out]; rfl)
          go_wp2_with fail
          go_roundw
          case rel => exact ⟨k + 1, t, hkt, by go_num, rfl, ht0, ht1, HT2, hb2⟩
          case measure => simp [intOf]; omega
        | true =>
          by_cases htn : t < 0
          · have hd2 : decide (t < 0) = true := decide_eq_true htn
            have HT2 : Hid ((k : Int) = leastTo g m (k + 1)) := hide (by rw [leastTo, HF.out, ← HT.out, hd2]; rfl)
            go_wp2_with fail
            go_roundw
            case rel => exact ⟨k + 1, (k : Int), hkt, by go_num, rfl, by omega, by omega, HT2, hb2⟩
            case measure => simp [intOf]; omega
          · have hd2 : decide (t < 0) = false := decide_eq_false htn
            have htr := sz_range (x := t) (by omega) ht1
            obtain ⟨y, hy⟩ : ∃ y, sz t = y := ⟨_, rfl⟩
            rw [hy] at htr
            have HY := hide hy
            clear hy
            go_wp2_with fail
            refine (l6Count_any _ _ hz (by omega)).mono ?_
            rintro e w3 ⟨rfl, rfl⟩
            rw [HX.out]
            go_wp2_with fail
            refine (l6Count_any _ _ (by omega) (by omega)).mono ?_
            rintro e w3 ⟨rfl, rfl⟩
            rw [HY.out]
            by_cases hxy : x < y
            · have hd3 : decide (x < y) = true := decide_eq_true hxy
              have HT2 : Hid ((k : Int) = leastTo g m (k + 1)) := hide (by rw [leastTo, HF.out, ← HT.out, hd2, HX.out, HY.out, hd3]; rfl)
              go_wp2_with fail
              go_roundw
              case rel => exact ⟨k + 1, (k : Int), hkt, by go_num, rfl, by omega, by omega, HT2, hb2⟩
              case measure => simp [intOf]; omega
            · have hd3 : decide (x < y) = false := decide_eq_false hxy
              have HT2 : Hid (t = leastTo g m (k + 1)) := hide (by rw [leastTo, HF.out, ← HT.out, hd2, HX.out, HY.out, hd3]; rfl)
              go_wp2_with fail
              go_roundw
              case rel => exact ⟨k + 1, t, hkt, by go_num, rfl, ht0, ht1, HT2, hb2⟩
              case measure => simp [intOf]; omega
      · obtain rfl : k = N := by omega
        have hd : decide ((k : Int) < k) = false := decide_eq_false (by omega)
        have H4 : Hid (dishesLeastL g m = t) := hide (by rw [H0.out, HT.out])
        go_wp2_with fail
        go_ret
        exact ⟨by rw [H4.out]; rfl, hb⟩
end Go.Proofs.YthbainbgimbjeaaDoor
