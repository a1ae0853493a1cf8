/- ReadS: contracts of l1Cut, l1Read and ReadItem of the reference model.
   Conditions: the bounds in each statement. -/
import Derived.Test.YtaelapimchmbcaaDoorReadI
import Derived.Test.YtaelapimchmbcaaDoorTextS
namespace Go.Proofs.YtaelapimchmbcaaDoor
open Go.RowKit Go.ChangeShapes Go.WideShapes Go.ChangeAt Go.Deep

def strCells (qs : List (List UInt8)) : List Value := qs.map (fun q => .string ⟨q.toArray⟩)
def StrSl (w : World) (lo : Nat) (v : Value) (qs : List (List UInt8)) : Prop := w.ownsRow lo 9 1 v qs.length (strCells qs)
theorem wpList_push_str {W : World} {ops : Array Oper} {rest : List Oper} {o : Oper} {a : Act} {Q : Exit → Act → World → Prop} (hgd : o.guard = none) (s x : Operand)
    (ho : o.op = .call { callee := .builtin .append, args := #[s, x], argTypes := #[46, 46] }) (lo : Nat) (v : Value) (qs : List (List UInt8)) (hs : a.eval s = v) (hown : StrSl W lo v qs) (g : Nat) (q : List UInt8)
    (hx : a.eval x = .slice (some ⟨g, 0, none⟩) 1 1) (hg : W.heap[g]? = some (.cells #[.string ⟨q.toArray⟩] 9 (0, 0))) (hn : qs.length ≤ 1048577) (hlo : lo ≤ W.heap.size)
    (h : ∀ g' cap w', StrSl w' lo (.slice (some ⟨g', 0, none⟩) (qs.length + 1) cap) (qs ++ [q]) → W.grownBy w' v.ownBlock → wpList Tryd.prog ops Q rest (a.put o.dst (.slice (some ⟨g', 0, none⟩) (qs.length + 1) cap)) w') :
    wpList Tryd.prog ops Q (o :: rest) a W := by
  obtain ⟨i0, hi, hz0, hz1, hz2⟩ := info_parts infoS
  refine wpList_append_lies W hgd s x 46 ho lo 9 i0 (.string ⟨#[]⟩) 1 16 Tryd.underlying46 hi hz0 hz1 hz2 rfl (by decide) v qs.length (strCells qs) hs hown ⟨g, 0, none⟩ 1 1 [.string ⟨q.toArray⟩] hx rfl
    (World.news_of_block (cs := #[.string ⟨q.toArray⟩]) hg) (fun u hu => by
      simp only [List.mem_cons, List.not_mem_nil, or_false] at hu
      rcases hu with rfl
      rfl) (by decide) (by unfold maxLen; omega) (by omega) hlo _ rfl ?_
  intro g' cap w' h1 h2 h3 _
  refine h g' cap w' ?_ h2
  unfold StrSl strCells
  rw [List.length_append, List.map_append]
  exact h1
theorem StrSl.cell {w : World} {lo g n c : Nat} {qs : List (List UInt8)} (h : StrSl w lo (.slice (some ⟨g, 0, none⟩) n c) qs) {i : Nat} {q : List UInt8} (hq : qs[i]? = some q) : w.cell? ⟨g, i, none⟩ = some (.string ⟨q.toArray⟩) := by
  have e : (strCells qs)[i]? = some (.string ⟨q.toArray⟩) := by unfold strCells; rw [List.getElem?_map, hq]; rfl
  have := World.ownsRow.cells h rfl i _ e
  rw [add_plain, Nat.zero_add] at this
  exact this

/-- What lies between the last cut and a place. -/
theorem extract_list (t : List UInt8) (f k : Nat) : (⟨t.toArray⟩ : ByteArray).extract f k = ⟨((t.drop f).take (k - f)).toArray⟩ := by
  apply ByteArray.ext
  rw [ByteArray.data_extract]
  apply Array.ext'
  simp [List.extract]

set_option maxRecDepth 100000 in
set_option maxHeartbeats 4000000 in
theorem l1Cut_any (t : List UInt8) (c : UInt8) (w : World) (ht : t.length ≤ 1048576) :
    Calls Tryd.prog 31 #[.string ⟨t.toArray⟩, .int .u8 (c.toNat : Nat)] w fun e w' => ∃ g cap, e = .returned (.slice (some ⟨g, 0, none⟩) (splitC c t).length cap) ∧ StrSl w' w.heap.size (.slice (some ⟨g, 0, none⟩) (splitC c t).length cap) (splitC c t) ∧ Below w.heap.size w w' := by
  obtain ⟨hqn, -⟩ := splitC_len c t.length t (Nat.le_refl _)
  have HO0 : Hid (StrSl (w.alloc (.cells #[] 9)) w.heap.size (.slice (some ⟨w.heap.size, 0, none⟩) 0 0) []) := hide (World.ownsRow_lit w #[] 0 (Nat.le_refl _) (by unfold maxLen; omega) rfl)
  obtain ⟨R, HR⟩ : ∃ R, Hid (splitC c t = R) := ⟨_, hide rfl⟩
  rw [HR.out] at hqn ⊢
  go_enter Tryd.func31, Tryd.ntmps31
  go_wp2_with fail
  go_loopw [5, 6, 7] (fun vv fv kv wr => ∃ (f k g cp : Nat) (qs : List (List UInt8)), f ≤ k ∧ k ≤ t.length ∧ fv = .int .i64 f ∧ kv = .int .i64 k ∧ vv = .slice (some ⟨g, 0, none⟩) qs.length cp ∧ Hid (StrSl wr w.heap.size (.slice (some ⟨g, 0, none⟩) qs.length cp) qs) ∧
      Hid (R = qs ++ splitC c (t.drop f) ∧ c ∉ (t.drop f).take (k - f) ∧ qs.length ≤ k) ∧ Hid (Below w.heap.size w wr)) (fun _ _ kv _ => t.length - (intOf kv).toNat)
  case atStart => exact ⟨0, 0, _, 0, [], Nat.le_refl _, Nat.zero_le _, rfl, rfl, rfl, HO0, hide ⟨by rw [List.nil_append, List.drop_zero]; exact HR.out.symm, by simp, Nat.le_refl _⟩, hide (by go_grown)⟩
  case round =>
    clear HO0
    obtain ⟨f, k, g, cp, qs, hfk, hk, rfl, rfl, rfl, HS, HF, HB⟩ := hrel
    by_cases hlt : k < t.length
    · have hz : (0 : Int) ≤ k := by omega
      have hz2 : (k : Int) < t.length := by omega
      obtain ⟨x, hx⟩ : ∃ x, t[k]? = some x := ⟨_, List.getElem?_eq_getElem hlt⟩
      have hx' : t[k] = x := by rw [List.getElem?_eq_getElem hlt] at hx; injection hx
      have hbx : (⟨t.toArray⟩ : ByteArray)[k]'(by show k < t.toArray.size; simpa using hlt) = x := by rw [← hx']; rfl
      have hdk : (t.drop f).take (k + 1 - f) = (t.drop f).take (k - f) ++ [x] := by
        rw [show k + 1 - f = (k - f) + 1 from by omega, List.take_succ_eq_append_getElem (by rw [List.length_drop]; omega)]
        congr 2
        rw [List.getElem_drop]
        rw [← hx']
        congr 1
        omega
      by_cases hxc : x = c
      · subst hxc
        have hspl : splitC x (t.drop f) = (t.drop f).take (k - f) :: splitC x (t.drop (k + 1)) := by
          have e : t.drop f = (t.drop f).take (k - f) ++ x :: t.drop (k + 1) := by
            have e1 : (t.drop f).drop (k - f) = x :: t.drop (k + 1) := by
              rw [List.drop_drop, show f + (k - f) = k from by omega, List.drop_eq_getElem_cons hlt, hx']
            rw [← e1, List.take_append_drop]
          rw [e, splitC_app (by have := HF.out.2.1; exact this)]
          congr 1
          rw [← e]
        have HR2 : Hid (R = (qs ++ [(t.drop f).take (k - f)]) ++ splitC x (t.drop (k + 1)) ∧ x ∉ (t.drop (k + 1)).take (k + 1 - (k + 1)) ∧ (qs ++ [(t.drop f).take (k - f)]).length ≤ k + 1) := hide ⟨by rw [HF.out.1, hspl, List.append_assoc]; rfl, by simp, by rw [List.length_append]; have := HF.out.2.2; simp; omega⟩
        have hxx : ((x.toNat : Int) == (x.toNat : Int)) = true := by simp
        have hql := HF.out.2.2
        have hf0 : (0 : Int) ≤ f := by omega
        have hfk2 : (f : Int) ≤ k := by omega
        have hkt : (k : Int) ≤ t.length := by omega
        have HSA := hide (World.ownsRow.alloc HS.out (.cells #[.string ((⟨t.toArray⟩ : ByteArray).extract f k)] 9))
        have HBA := hide (HB.out.alloc HB.out.size (.cells #[.string ((⟨t.toArray⟩ : ByteArray).extract f k)] 9))
        have HLT := hide (World.ownsRow.lt HS.out)
        have hnew : (wr.alloc (.cells #[.string ((⟨t.toArray⟩ : ByteArray).extract f k)] 9)).heap[wr.heap.size]? = some (.cells #[.string ⟨((t.drop f).take (k - f)).toArray⟩] 9 (0, 0)) := by rw [← extract_list]; exact heap_alloc_new wr _
        have HNEW := hide hnew
        have hsz := HB.out.size
        clear hx hx' hdk hspl hnew
        go_wp2_with (at_builtin; refine wpList_push_str rfl _ _ rfl w.heap.size (.slice (some ⟨g, 0, none⟩) qs.length cp) qs rfl HSA.out wr.heap.size ((t.drop f).take (k - f)) rfl HNEW.out (by omega) (by simp; omega) ?_; intro g5 cap w5 hown hgrow)
        have hb5 : Below w.heap.size w w5 := HBA.out.grown hgrow (by simp; omega) (fun k hk => (HLT.out k hk).1)
        clear hgrow
        have hown5 : StrSl w5 w.heap.size (.slice (some ⟨g5, 0, none⟩) (qs ++ [(t.drop f).take (k - f)]).length cap) (qs ++ [(t.drop f).take (k - f)]) := by
          rw [show (qs ++ [(t.drop f).take (k - f)]).length = qs.length + 1 from by rw [List.length_append]; rfl]
          exact hown
        have hlen5 : qs.length + 1 = (qs ++ [(t.drop f).take (k - f)]).length := by rw [List.length_append]; rfl
        clear hown
        go_wp2_with fail
        go_roundw
        case rel => exact ⟨k + 1, k + 1, g5, cap, _, Nat.le_refl _, hlt, by go_num, by go_num, by rw [← hlen5], hide hown5, HR2, hide hb5⟩
        case measure => simp [intOf]; omega
      · have hne : ((x.toNat : Int) == (c.toNat : Int)) = false := by
          rw [beq_eq_false_iff_ne]
          intro e
          exact hxc (UInt8.toNat.inj (by omega))
        have hne2 : (x.toNat == c.toNat) = false := by
          rw [beq_eq_false_iff_ne]
          intro e
          exact hxc (UInt8.toNat.inj e)
        have hne3 : ¬ x.toNat = c.toNat := fun e => hxc (UInt8.toNat.inj e)
        have HR2 : Hid (R = qs ++ splitC c (t.drop f) ∧ c ∉ (t.drop f).take (k + 1 - f) ∧ qs.length ≤ k + 1) := hide ⟨HF.out.1, by
          rw [hdk]
          intro h
          rcases List.mem_append.1 h with h | h
          · exact HF.out.2.1 h
          · exact hxc (List.mem_singleton.1 h).symm, by have := HF.out.2.2; omega⟩
        clear hx hx' hdk
        go_wp2_with fail
        go_roundw
        case rel => exact ⟨f, k + 1, g, cp, qs, by omega, hlt, by first | rfl | go_num, by go_num, by first | rfl | go_num, HS, HR2, HB⟩
        case measure => simp [intOf]; omega
    · obtain rfl : k = t.length := by omega
      have HE : Hid (R = qs ++ [t.drop f]) := hide (by
        have h1 := HF.out.2.1
        rw [List.take_of_length_le (by rw [List.length_drop]; exact Nat.le_refl _)] at h1
        rw [HF.out.1, splitC_none h1])
      have hql := HF.out.2.2
      have hf0 : (0 : Int) ≤ f := by omega
      have hfk2 : (f : Int) ≤ t.length := by omega
      have HSA := hide (World.ownsRow.alloc HS.out (.cells #[.string ((⟨t.toArray⟩ : ByteArray).extract f t.length)] 9))
      have HBA := hide (HB.out.alloc HB.out.size (.cells #[.string ((⟨t.toArray⟩ : ByteArray).extract f t.length)] 9))
      have HLT := hide (World.ownsRow.lt HS.out)
      have hnew : (wr.alloc (.cells #[.string ((⟨t.toArray⟩ : ByteArray).extract f t.length)] 9)).heap[wr.heap.size]? = some (.cells #[.string ⟨(t.drop f).toArray⟩] 9 (0, 0)) := by
        rw [heap_alloc_new, extract_list, List.take_of_length_le (by rw [List.length_drop]; exact Nat.le_refl _)]
      have HNEW := hide hnew
      have hsz := HB.out.size
      clear hnew
      go_wp2_with (at_builtin; refine wpList_push_str rfl _ _ rfl w.heap.size (.slice (some ⟨g, 0, none⟩) qs.length cp) qs rfl HSA.out wr.heap.size (t.drop f) rfl HNEW.out (by omega) (by simp; omega) ?_; intro g5 cap w5 hown hgrow)
      have hb5 : Below w.heap.size w w5 := HBA.out.grown hgrow (by simp; omega) (fun k hk => (HLT.out k hk).1)
      clear hgrow
      have hlr : R.length = qs.length + 1 := by rw [HE.out, List.length_append]; rfl
      have hown5 : StrSl w5 w.heap.size (.slice (some ⟨g5, 0, none⟩) R.length cap) R := by
        rw [hlr, HE.out]
        exact hown
      have HLR := hide hlr
      clear hown hlr
      go_wp2_with fail
      exact bodyPost_ret (v := .slice (some ⟨g5, 0, none⟩) (qs.length + 1) cap) (by simp [results, Tryd.results31, go_sem]) rfl ⟨g5, cap, by rw [HLR.out], hown5, hb5⟩

/-! ### numbers -/
theorem u8_small {d : Nat} (h : d < 256) : IntKind.u8.wrap (d : Int) = (d : Int) := by
  unfold IntKind.wrap
  simp [IntKind.bits, IntKind.signed]
  omega
theorem readGo_low : ∀ (t : List UInt8) (n : Int), 0 ≤ n → -1 ≤ readGo n t
  | [], n, h => by rw [readGo]; omega
  | c :: r, n, h => by
    rw [readGo]
    split
    · omega
    · rename_i hc
      exact readGo_low r _ (by omega)
set_option maxRecDepth 100000 in
set_option maxHeartbeats 4000000 in
theorem l1Read_any (t : List UInt8) (w : World) (ht : t.length ≤ 1048576) :
    Calls Tryd.prog 32 #[.string ⟨t.toArray⟩] w fun e w' => e = .returned (.int .i64 (numS t)) ∧ w' = w := by
  obtain ⟨R, HR⟩ : ∃ R, Hid (numS t = R) := ⟨_, hide rfl⟩
  rw [HR.out]
  obtain ⟨β, hβ⟩ : ∃ β, inR (t.length : Int) 1 5 = β := ⟨_, rfl⟩
  have HI := hide (fun W => l1In_is (t.length : Int) 1 5 β (hide hβ) W)
  have HBT := hide hβ
  clear hβ
  go_enter Tryd.func32, Tryd.ntmps32
  go_wp2_with fail
  refine (HI.out w).mono ?_
  rintro e w1 ⟨rfl, h1⟩
  have h1 : w1 = w := by first | exact h1 | exact h1.symm
  subst w1
  cases β with
  | false =>
    have hr : R = -1 := by
      rw [← HR.out]
      have := HBT.out
      have h2 : ¬ (1 ≤ (t.length : Int) ∧ (t.length : Int) ≤ 5) := fun h => by rw [inR_iff.2 h] at this; cases this
      unfold numS
      exact if_pos (by omega)
    subst hr
    go_wp2_with fail
    go_ret
    exact ⟨rfl, rfl⟩
  | true =>
    have hrg := inR_iff.1 HBT.out
    have hlen : 1 ≤ t.length ∧ t.length ≤ 5 := by omega
    obtain ⟨hl1, hl5⟩ := hlen
    obtain ⟨x, hx⟩ : ∃ x, t[0]? = some x := ⟨_, List.getElem?_eq_getElem (by omega)⟩
    have hbx : (⟨t.toArray⟩ : ByteArray)[0]'(by show 0 < t.toArray.size; simp; omega) = x := by
      rw [List.getElem?_eq_getElem (by omega)] at hx
      injection hx
    have hhd : t.head? = some x := by rw [List.head?_eq_getElem?]; exact hx
    by_cases hL1 : 1 < t.length
    · have hL1i : (1 : Int) < t.length := by omega
      by_cases hx0 : x = 48
      · have hr : R = -1 := by rw [← HR.out]; unfold numS; exact if_pos (.inr (.inr ⟨hL1, by rw [hhd, hx0]⟩))
        subst hr
        subst hx0
        go_wp2_with fail
        go_ret
        exact ⟨rfl, rfl⟩
      · have hxn : ¬ x.toNat = 48 := fun e => hx0 (UInt8.toNat.inj e)
        have hxb : ((x.toNat : Int) == 48) = false := by rw [beq_eq_false_iff_ne]; omega
        have hxb2 : (x.toNat == 48) = false := by rw [beq_eq_false_iff_ne]; exact hxn
        have HN : Hid (R = readGo 0 (t.drop 0)) := hide (by rw [← HR.out]; unfold numS; rw [if_neg (by rintro (h | h | h) <;> first | omega | (rw [hhd] at h; exact hx0 (by have := h.2; injection this))), List.drop_zero])
        go_wp2_with fail
        go_loopw [3, 4] (fun nv kv wr => ∃ k n p : Nat, k ≤ t.length ∧ nv = .int .i64 n ∧ kv = .int .i64 k ∧ n + 1 ≤ p ∧ Hid (p = 10 ^ k) ∧ Hid (R = readGo n (t.drop k)) ∧ wr = w) (fun _ kv _ => t.length - (intOf kv).toNat)
        case atStart => exact ⟨0, 0, 1, Nat.zero_le _, rfl, rfl, by omega, hide rfl, HN, rfl⟩
        case round =>
          clear HN
          obtain ⟨k, n, p, hk, rfl, rfl, hnp, HPW, HK, hw⟩ := hrel
          subst hw
          by_cases hlt : k < t.length
          · have hz : (0 : Int) ≤ k := by omega
            have hz2 : (k : Int) < t.length := by omega
            have hp5 : p ≤ 10000 := by rw [HPW.out]; exact Nat.le_trans (Nat.pow_le_pow_right (by omega) (show k ≤ 4 by omega)) (by decide)
            obtain ⟨y, hy⟩ : ∃ y, t[k]? = some y := ⟨_, List.getElem?_eq_getElem hlt⟩
            have hby : (⟨t.toArray⟩ : ByteArray)[k]'(by show k < t.toArray.size; simpa using hlt) = y := by
              rw [List.getElem?_eq_getElem hlt] at hy
              injection hy
            have HD : Hid (t.drop k = y :: t.drop (k + 1)) := hide (by
              rw [List.drop_eq_getElem_cons hlt]
              rw [List.getElem?_eq_getElem hlt] at hy
              injection hy with hy
              rw [hy])
            clear hy
            have hy255 : y.toNat < 256 := y.toNat_lt
            obtain ⟨v, hv⟩ : ∃ v, y.toNat = v := ⟨_, rfl⟩
            rw [hv] at hy255
            have HV := hide hv
            by_cases h48 : v < 48
            · have hr : R = -1 := by rw [HK.out, HD.out, readGo, HV.out, if_pos (.inl h48)]
              subst hr
              have h48i : (v : Int) < 48 := by omega
              go_wp2_with fail
              go_ret
              exact ⟨rfl, rfl⟩
            · by_cases h57 : 57 < v
              · have hr : R = -1 := by rw [HK.out, HD.out, readGo, HV.out, if_pos (.inr h57)]
                subst hr
                have h48i : ¬ (v : Int) < 48 := by omega
                have h57i : (57 : Int) < v := by omega
                go_wp2_with fail
                go_ret
                exact ⟨rfl, rfl⟩
              · have h48i : ¬ (v : Int) < 48 := by omega
                have h57i : ¬ (57 : Int) < v := by omega
                obtain ⟨d, hd⟩ : ∃ d : Nat, (v : Int) - 48 = d := ⟨v - 48, by omega⟩
                have hd9 : d ≤ 9 := by omega
                have w1 : IntKind.u8.wrap ((v : Int) - 48) = (d : Int) := by rw [hd]; exact u8_small (by omega)
                have w2 : IntKind.i64.wrap (10 * (n : Int)) = 10 * (n : Int) := IntWalk.i64_in _ (by omega)
                have w3 : IntKind.i64.wrap (10 * (n : Int) + (d : Int)) = ((10 * n + d : Nat) : Int) := by
                  rw [show 10 * (n : Int) + (d : Int) = ((10 * n + d : Nat) : Int) from by omega]
                  exact IntWalk.i64_in _ (by omega)
                have w4 : IntKind.i64.wrap (d : Int) = (d : Int) := IntWalk.i64_in _ (by omega)
                have HK2 : Hid (R = readGo ((10 * n + d : Nat) : Int) (t.drop (k + 1))) := hide (by
                  rw [HK.out, HD.out, readGo, HV.out, if_neg (by omega), hd]
                  congr 1)
                have HP2 : Hid (p * 10 = 10 ^ (k + 1)) := hide (by rw [HPW.out, Nat.pow_succ])
                go_wp2_with fail
                go_roundw
                case rel => exact ⟨k + 1, 10 * n + d, p * 10, hlt, by first | rfl | go_num, by go_num, by omega, HP2, HK2, by first | rfl | trivial⟩
                case measure => simp [intOf]; omega
          · have hr : R = n := by rw [HK.out, List.drop_of_length_le (by omega), readGo]
            subst hr
            go_wp2_with fail
            go_ret
            exact ⟨rfl, rfl⟩
    · have hL1i : ¬ (1 : Int) < t.length := by omega
      have HN : Hid (R = readGo 0 (t.drop 0)) := hide (by rw [← HR.out]; unfold numS; rw [if_neg (by rintro (h | h | h) <;> first | omega | (exact absurd h.1 hL1)), List.drop_zero])
      go_wp2_with fail
      go_loopw [3, 4] (fun nv kv wr => ∃ k n p : Nat, k ≤ t.length ∧ nv = .int .i64 n ∧ kv = .int .i64 k ∧ n + 1 ≤ p ∧ Hid (p = 10 ^ k) ∧ Hid (R = readGo n (t.drop k)) ∧ wr = w) (fun _ kv _ => t.length - (intOf kv).toNat)
      case atStart => exact ⟨0, 0, 1, Nat.zero_le _, rfl, rfl, by omega, hide rfl, HN, rfl⟩
      case round =>
        clear HN
        obtain ⟨k, n, p, hk, rfl, rfl, hnp, HPW, HK, hw⟩ := hrel
        subst hw
        by_cases hlt : k < t.length
        · have hz : (0 : Int) ≤ k := by omega
          have hz2 : (k : Int) < t.length := by omega
          have hp5 : p ≤ 10000 := by rw [HPW.out]; exact Nat.le_trans (Nat.pow_le_pow_right (by omega) (show k ≤ 4 by omega)) (by decide)
          obtain ⟨y, hy⟩ : ∃ y, t[k]? = some y := ⟨_, List.getElem?_eq_getElem hlt⟩
          have hby : (⟨t.toArray⟩ : ByteArray)[k]'(by show k < t.toArray.size; simpa using hlt) = y := by
            rw [List.getElem?_eq_getElem hlt] at hy
            injection hy
          have HD : Hid (t.drop k = y :: t.drop (k + 1)) := hide (by
            rw [List.drop_eq_getElem_cons hlt]
            rw [List.getElem?_eq_getElem hlt] at hy
            injection hy with hy
            rw [hy])
          clear hy
          have hy255 : y.toNat < 256 := y.toNat_lt
          obtain ⟨v, hv⟩ : ∃ v, y.toNat = v := ⟨_, rfl⟩
          rw [hv] at hy255
          have HV := hide hv
          by_cases h48 : v < 48
          · have hr : R = -1 := by rw [HK.out, HD.out, readGo, HV.out, if_pos (.inl h48)]
            subst hr
            have h48i : (v : Int) < 48 := by omega
            go_wp2_with fail
            go_ret
            exact ⟨rfl, rfl⟩
          · by_cases h57 : 57 < v
            · have hr : R = -1 := by rw [HK.out, HD.out, readGo, HV.out, if_pos (.inr h57)]
              subst hr
              have h48i : ¬ (v : Int) < 48 := by omega
              have h57i : (57 : Int) < v := by omega
              go_wp2_with fail
              go_ret
              exact ⟨rfl, rfl⟩
            · have h48i : ¬ (v : Int) < 48 := by omega
              have h57i : ¬ (57 : Int) < v := by omega
              obtain ⟨d, hd⟩ : ∃ d : Nat, (v : Int) - 48 = d := ⟨v - 48, by omega⟩
              have hd9 : d ≤ 9 := by omega
              have w1 : IntKind.u8.wrap ((v : Int) - 48) = (d : Int) := by rw [hd]; exact u8_small (by omega)
              have w2 : IntKind.i64.wrap (10 * (n : Int)) = 10 * (n : Int) := IntWalk.i64_in _ (by omega)
              have w3 : IntKind.i64.wrap (10 * (n : Int) + (d : Int)) = ((10 * n + d : Nat) : Int) := by
                rw [show 10 * (n : Int) + (d : Int) = ((10 * n + d : Nat) : Int) from by omega]
                exact IntWalk.i64_in _ (by omega)
              have w4 : IntKind.i64.wrap (d : Int) = (d : Int) := IntWalk.i64_in _ (by omega)
              have HK2 : Hid (R = readGo ((10 * n + d : Nat) : Int) (t.drop (k + 1))) := hide (by
                rw [HK.out, HD.out, readGo, HV.out, if_neg (by omega), hd]
                congr 1)
              have HP2 : Hid (p * 10 = 10 ^ (k + 1)) := hide (by rw [HPW.out, Nat.pow_succ])
              go_wp2_with fail
              go_roundw
              case rel => exact ⟨k + 1, 10 * n + d, p * 10, hlt, by first | rfl | go_num, by go_num, by omega, HP2, HK2, by first | rfl | trivial⟩
              case measure => simp [intOf]; omega
        · have hr : R = n := by rw [HK.out, List.drop_of_length_le (by omega), readGo]
          subst hr
          go_wp2_with fail
          go_ret
          exact ⟨rfl, rfl⟩
end Go.Proofs.YtaelapimchmbcaaDoor
