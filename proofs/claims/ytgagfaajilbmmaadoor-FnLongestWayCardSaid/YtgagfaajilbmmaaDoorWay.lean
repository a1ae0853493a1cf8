/- WayM: the longest way of tasks: how it is made from its end on; what the law asks of it.
   Conditions: none.
   WayS: contract of LongestWay of the reference model.
   Conditions: lists have at most 1048576 elements.
   WayI: contract of LongestWay of the program.
   Conditions: lists have at most 1048576 elements. -/
import Derived.Test.YtgagfaajilbmmaaDoorLate
import Derived.Test.YtgagfaajilbmmaaDoorSpread0
import Derived.StillTail
import Derived.OrdersIn
import Derived.LaidEqlPtr
import Derived.BigRegion
namespace Go.Proofs.YtgagfaajilbmmaaDoor
open Go.RowKit Go.ChangeShapes Go.WideShapes Go.ChangeAt Go.Deep

theorem grown_belowW {w wr w' : World} {b : Nat} (h : w.grownBy wr (some b)) (hb : Below wr.heap.size wr w') : w.grownBy w' (some b) :=
  ⟨hb.os.trans h.os, hb.tape.trans h.tape, hb.output.trans h.output, Nat.le_trans h.size hb.size, fun k hk hne => (hb.block k (Nat.lt_of_lt_of_le hk h.size)).trans (h.block k hk hne)⟩
theorem wpList_wantedW {P : Program} {ops : Array Oper} {Q : Exit → Act → World → Prop} {rest : List Oper} {o : Oper} {a : Act} {w : World} (hw : Region.wanted o (yielded ops a.tmps) = true) (h : o.wp P a w (wpList P ops Q rest) Q) : wpList P ops Q (o :: rest) a w := by
  unfold wpList
  rw [if_pos hw]
  exact .inl h
theorem wp_push_intW {W : World} {o : Oper} {a : Act} {K : Act → World → Prop} {Q : Exit → Act → World → Prop} (s x : Operand)
    (ho : o.op = .call { callee := .builtin .append, args := #[s, x], argTypes := #[24, 24] }) (lo : Nat) (v : Value) (xs : List Int) (hs : a.eval s = v) (hown : IntSl W lo v xs) (g : Nat) (y : Int)
    (hx : a.eval x = .slice (some ⟨g, 0, none⟩) 1 1) (hg : W.heap[g]? = some (.cells #[.int .i64 y] 3 (0, 0))) (hn : xs.length ≤ 1048576) (hlo : lo ≤ W.heap.size)
    (h : ∀ g' cap w', IntSl w' lo (.slice (some ⟨g', 0, none⟩) (xs.length + 1) cap) (xs ++ [y]) → W.grownBy w' v.ownBlock → (v.ownBlock = some g' ∨ g' = W.heap.size) → K (a.put o.dst (.slice (some ⟨g', 0, none⟩) (xs.length + 1) cap)) w') : o.wp Tryd.prog a W K Q := by
  obtain ⟨i0, hi, hz0, hz1, hz2⟩ := info_parts info3
  refine wp_append_lies W s x 24 ho lo 3 i0 (.int .i64 0) 1 8 Tryd.underlying24 hi hz0 hz1 hz2 rfl (by decide) v xs.length (xs.map (.int .i64)) hs hown ⟨g, 0, none⟩ 1 1 [.int .i64 y] hx rfl
    (World.news_of_block (cs := #[.int .i64 y]) hg) (ints_oneCell .i64 [y]) (by decide) (by unfold maxLen; omega) (by omega) hlo _ rfl ?_
  intro g' cap w' h1 h2 h3 _
  refine h g' cap w' ?_ h2 h3
  unfold IntSl
  rw [List.length_append, List.map_append]
  exact h1
def lenV : Value → Nat
  | .slice _ n _ => n
  | _ => 0
def stA (l : List Task) (k : Nat) : Int := (startsEarlyL l).getD k 0
def dnA (l : List Task) (k : Nat) : Int := stA l k + spanAt l k
def prevOf (l : List Task) (k : Nat) : Option Nat := ((l.getD k default).after.map Int.toNat).find? (fun a => dnA l a == stA l k)
def wayGo (l : List Task) : Nat → Nat → List Int → List Int
  | 0, _, out => out
  | f + 1, k, out => if 0 < stA l k then (match prevOf l k with | some a => wayGo l f a ((a : Int) :: out) | none => out) else out
def lastUpto (l : List Task) (n : Nat) : Option Nat := (List.range n).find? (fun k => dnA l k == tasksEndL l)
def longestL (l : List Task) : List Int := if tasksOk l = true then (match lastUpto l l.length with | some k => wayGo l l.length k [(k : Int)] | none => []) else []

theorem way_no {l : List Task} (h : tasksOk l = false) : longestL l = [] := by unfold longestL; rw [if_neg (by rw [h]; decide)]
theorem way_none {l : List Task} (h : l.length = 0) : longestL l = [] := by
  unfold longestL lastUpto
  rw [h]
  simp
theorem stA_rng {l : List Task} (h : tasksOk l = true) (k : Nat) : 0 ≤ stA l k ∧ stA l k ≤ 210 := by
  unfold stA
  rw [List.getD_eq_getElem?_getD]
  cases e : (startsEarlyL l)[k]? with
  | none => simp
  | some x => exact startsEarlyL_ok h x (List.mem_of_getElem? e)
theorem dnA_rng {l : List Task} (h : tasksOk l = true) (k : Nat) : 0 ≤ dnA l k ∧ dnA l k ≤ 240 := by
  have a := stA_rng h k
  have b : 0 ≤ spanAt l k ∧ spanAt l k ≤ 30 := getD_span (tasks_span h) k
  unfold dnA
  omega
theorem lastUpto_some {l : List Task} (h : tasksOk l = true) (h0 : 0 < l.length) : ∃ k, lastUpto l l.length = some k ∧ k < l.length ∧ dnA l k = tasksEndL l ∧ ∀ j, j < k → dnA l j ≠ tasksEndL l := by
  have key : ∃ k, k < l.length ∧ dnA l k = tasksEndL l := by
    rcases end_at h with e | ⟨k, hk, e⟩
    · have a := (dnA_rng h 0).1
      have b := end_ge h h0
      exact ⟨0, h0, by unfold dnA stA at *; omega⟩
    · exact ⟨k, hk, e.symm⟩
  obtain ⟨k, hk, e⟩ := key
  cases hf : lastUpto l l.length with
  | none =>
    have := List.find?_eq_none.1 hf k (List.mem_range.2 hk)
    simp [e] at this
  | some j =>
    have h1 := List.find?_some hf
    have h2 := List.mem_of_find?_eq_some hf
    refine ⟨j, rfl, List.mem_range.1 h2, by simpa using h1, fun i hi => ?_⟩
    have := (List.find?_range_eq_some.1 hf).2.2 i hi
    simpa using this
theorem prevOf_some {l : List Task} (h : tasksOk l = true) {k : Nat} {x : Task} (hx : l[k]? = some x) (hs : 0 < stA l k) : ∃ a, prevOf l k = some a ∧ a < k ∧ (a : Int) ∈ x.after ∧ dnA l a = stA l k ∧
    ∃ i : Nat, x.after[i]? = some (a : Int) ∧ ∀ j : Nat, j < i → ∀ b : Int, x.after[j]? = some b → dnA l b.toNat ≠ stA l k := by
  have hr := (tasksOk_at h hx).2
  rcases (early_at h hx).2.2 with e | ⟨a, ha, e⟩
  · exact absurd e (by unfold stA at hs; omega)
  · have hd : l.getD k default = x := getDT_at hx
    cases hf : prevOf l k with
    | none =>
      unfold prevOf at hf
      rw [hd] at hf
      have := List.find?_eq_none.1 hf a.toNat (List.mem_map.2 ⟨a, ha, rfl⟩)
      exact absurd (show dnA l a.toNat = stA l k from e.symm) (by simpa using this)
    | some b =>
      unfold prevOf at hf
      rw [hd] at hf
      have h1 := List.find?_some hf
      obtain ⟨i, hi, hib, hj⟩ := List.find?_eq_some_iff_getElem.1 hf |>.2
      have hil : i < x.after.length := by simpa using hi
      have hxi : x.after[i]? = some (b : Int) := by
        have h2 := hr x.after[i] (List.getElem_mem hil)
        rw [List.getElem_map] at hib
        rw [List.getElem?_eq_getElem hil, ← hib]
        congr 1
        omega
      have h2 := hr b (List.mem_of_getElem? hxi)
      refine ⟨b, rfl, by omega, List.mem_of_getElem? hxi, by simpa using h1, i, hxi, fun j hji c hc => ?_⟩
      have h3 := hj j hji
      rw [List.getElem_map] at h3
      have hcl := List.getElem?_eq_getElem (show j < x.after.length by omega)
      rw [hcl] at hc
      injection hc with hc
      rw [hc] at h3
      simpa using h3
theorem wayGo_len (l : List Task) : ∀ (f k : Nat) (out : List Int), (wayGo l f k out).length ≤ out.length + f
  | 0, _, _ => Nat.le_refl _
  | f + 1, k, out => by
    rw [wayGo]
    split
    · split
      · have := wayGo_len l f ‹_› ((‹Nat› : Int) :: out)
        simp only [List.length_cons] at this
        omega
      · omega
    · omega
theorem longestL_le (l : List Task) : (longestL l).length ≤ 1048576 := by
  unfold longestL
  split
  · rename_i h
    have := tasksOk_len h
    split
    · have := wayGo_len l l.length ‹_› [(‹Nat› : Int)]
      simp only [List.length_cons, List.length_nil] at this
      omega
    · simp
  · simp

/-- What a way has while it is made, its first task being k. -/
structure WayOk (l : List Task) (k : Nat) (out : List Int) : Prop where
  rng : ∀ i ∈ out, 0 ≤ i ∧ i < (l.length : Int)
  eq : ∀ i ∈ out, stA l i.toNat = (startsLateL l).getD i.toNat 0
  prec : ∀ j x y, out[j]? = some x → out[j + 1]? = some y → x ∈ (l.getD y.toNat default).after
  sum : sumL (out.map (fun i => spanAt l i.toNat)) = tasksEndL l - stA l k
theorem way_ok {l : List Task} (h : tasksOk l = true) : ∀ (f k : Nat) (r : List Int), k < f → k < l.length → WayOk l k ((k : Int) :: r) → ∃ (k' : Nat) (r' : List Int), wayGo l f k ((k : Int) :: r) = (k' : Int) :: r' ∧ WayOk l k' ((k' : Int) :: r') ∧ stA l k' = 0
  | 0, k, r, hf, _, _ => absurd hf (by omega)
  | f + 1, k, r, hf, hk, hw => by
    rw [wayGo]
    by_cases hs : 0 < stA l k
    · have hx := List.getElem?_eq_getElem hk
      obtain ⟨a, h1, h2, h3, h4, -⟩ := prevOf_some h hx hs
      rw [if_pos hs, h1]
      refine way_ok h f a ((k : Int) :: r) (by omega) (by omega) ⟨fun i hi => ?_, fun i hi => ?_, fun j x y hx' hy => ?_, ?_⟩
      · rcases List.mem_cons.1 hi with rfl | hi
        · omega
        · exact hw.rng i hi
      · rcases List.mem_cons.1 hi with rfl | hi
        · have e1 := hw.eq k (by simp)
          have e2 := (late_ok h).prec k _ (Nat.zero_le _) hx a h3
          have e3 := early_late h a (by omega)
          unfold dnA at h4
          rw [Int.toNat_natCast] at e1 e2 ⊢
          unfold stA at *
          omega
        · exact hw.eq i hi
      · cases j with
        | zero =>
          obtain rfl : (a : Int) = x := by simpa using hx'
          obtain rfl : (k : Int) = y := by simpa using hy
          rw [Int.toNat_natCast, getDT_at hx]
          exact h3
        | succ j => exact hw.prec j x y (by simpa using hx') (by simpa using hy)
      · have := hw.sum
        simp only [List.map_cons, sumL, Int.toNat_natCast] at this ⊢
        unfold dnA at h4
        omega
    · rw [if_neg hs]
      have := (stA_rng h k).1
      exact ⟨k, r, rfl, hw, by omega⟩
/-- The way is one. -/
theorem longest_ok {l : List Task} (h : tasksOk l = true) (h0 : 0 < l.length) : 0 < (longestL l).length ∧ ∃ k, WayOk l k (longestL l) ∧ stA l k = 0 := by
  obtain ⟨k, h1, h2, h3, -⟩ := lastUpto_some h h0
  have hw : WayOk l k [(k : Int)] := by
    refine ⟨fun i hi => ?_, fun i hi => ?_, fun j x y hx hy => by simp at hy, ?_⟩
    · obtain rfl : i = (k : Int) := by simpa using hi
      omega
    · obtain rfl : i = (k : Int) := by simpa using hi
      have e2 := (late_ok h).top k h2
      have e3 := early_late h k h2
      unfold dnA at h3
      rw [Int.toNat_natCast]
      unfold stA at *
      omega
    · simp only [List.map_cons, List.map_nil, sumL, Int.toNat_natCast]
      unfold dnA at h3
      omega
  obtain ⟨k', r', h4, h5, h6⟩ := way_ok h l.length k [] h2 h2 hw
  have e : longestL l = (k' : Int) :: r' := by
    unfold longestL
    rw [if_pos h, h1]
    exact h4
  rw [e]
  exact ⟨by simp, k', h5, h6⟩
end Go.Proofs.YtgagfaajilbmmaaDoor

namespace Go.Proofs.YtgagfaajilbmmaaDoor
open Go.RowKit Go.ChangeShapes Go.WideShapes Go.ChangeAt Go.Deep

def lastStep (o : Option Nat) (b : Bool) (k : Nat) : Option Nat := match o with | some j => some j | none => if b = true then some k else none
theorem lastUpto_succ (l : List Task) (k : Nat) : lastUpto l (k + 1) = lastStep (lastUpto l k) (dnA l k == tasksEndL l) k := by
  unfold lastUpto
  rw [List.range_succ, List.find?_append]
  cases (List.range k).find? (fun k => dnA l k == tasksEndL l) with
  | some j => rfl
  | none => by_cases h : dnA l k = tasksEndL l <;> simp [h, lastStep]
theorem row_keptW {w w' : World} {lo b : Nat} {e : TypeId} {size n : Nat} {v : Value} {xs : List Value} (h : w.ownsRow lo e size v n xs) (hb : b < lo) (hg : w.grownBy w' (some b)) : w'.ownsRow lo e size v n xs := World.ownsRow.kept h hg (by
  cases hv : v.ownBlock with
  | none => exact .inl rfl
  | some k => exact .inr (fun e => by injection e with e; have := (World.ownsRow.lt h k hv).1; omega))
theorem grown_eitherW {w wr w' : World} {b g : Nat} (h : w.grownBy wr (some b)) (hg : wr.grownBy w' (some g)) (he : g = b ∨ w.heap.size ≤ g) : w.grownBy w' (some b) :=
  ⟨hg.os.trans h.os, hg.tape.trans h.tape, hg.output.trans h.output, Nat.le_trans h.size hg.size, fun k hk hne => (hg.block k (Nat.lt_of_lt_of_le hk h.size) (fun e => by
    injection e with e
    rcases he with he | he
    · exact hne (by rw [e, he])
    · omega)).trans (h.block k hk hne)⟩
theorem ints_keptW {w w' : World} {A : Option Addr} {xs : List Int} {b : Nat} (h : IntsAt w A xs) (hA : ∀ a, A = some a → b < a.block) (hg : w.grownBy w' (some b)) : IntsAt w' A xs := fun i x hx => by
  obtain ⟨k, off, e, hlt, h1⟩ := h i x hx
  have := hA _ e
  exact ⟨k, off, e, Nat.lt_of_lt_of_le hlt hg.size, (World.cell?_of_block (a := ⟨k, off + i, none⟩) (hg.block k hlt (fun e => by injection e with e; simp at this; omega))).trans h1⟩
def lastL (o : Option Nat) : List Int := match o with | some j => [(j : Int)] | none => []

set_option maxRecDepth 100000 in
set_option maxHeartbeats 4000000 in
theorem specLongestWay_any (A : Option Addr) (c : Nat) (l : List Task) (w : World) (hA : TasksAt w A l) (hl : l.length ≤ 1048576) (hp : ∀ x ∈ l, x.after.length ≤ 1048576) :
    Calls Tryd.prog 32 #[.slice A l.length c] w fun e w' => ∃ v, e = .returned v ∧ IntSl w' w.heap.size v (longestL l) ∧ Below w.heap.size w w' := by
  have HP := hide hp
  clear hp
  have hO0 : IntSl (w.alloc (.cells #[] 3)) w.heap.size (.slice (some ⟨w.heap.size, 0, none⟩) 0 0) [] := World.ownsRow_lit w #[] 0 (Nat.le_refl _) (by unfold maxLen; omega) rfl
  have HO0 := hide hO0
  have hba : Below w.heap.size w (w.alloc (.cells #[] 3)) := by go_grown
  have HA0 := hide (hA.below hba)
  clear hO0
  go_enter Tryd.func32, Tryd.ntmps32
  go_wp2_with fail
  refine (specStartsEarly_any _ _ _ _ HA0.out hl HP.out).mono ?_
  rintro e w1 ⟨v1, rfl, hS1, hB1⟩
  obtain ⟨A1, d1, rfl, hSI, hF1⟩ := hS1.form
  have HF1 := hide hF1
  clear hF1
  have hb1 := next hba hB1
  have HA1 := hide (HA0.out.below hB1)
  have HO1 := hide (HO0.out.below hB1)
  have HS1 := hide hSI
  clear hB1 HA0 HO0 hS1 hSI
  go_wp2_with fail
  refine (specTasksEnd_any _ _ _ _ HA1.out hl HP.out).mono ?_
  rintro e w2 ⟨rfl, hB2⟩
  have hb2 := next hb1 hB2
  have HA2 := hide (HA1.out.below hB2)
  have HO2 := hide (HO1.out.below hB2)
  have HS2 := hide (HS1.out.below hB2)
  have hz2 := hb2.size
  clear hB2 HA1 HO1 HS1
  cases hI : tasksOk l with
  | false =>
    have HR := hide (way_no hI)
    have HES : Hid (startsEarlyL l = []) := hide (by unfold startsEarlyL; rw [hI]; rfl)
    clear hI
    obtain ⟨en, HEN⟩ : ∃ en, Hid (tasksEndL l = en) := ⟨_, hide rfl⟩
    rw [HES.out, HEN.out]
    have HO3 := hide (And.intro HO2.out hb2)
    clear HO2 HS2 hb2
    go_wp2_with fail
    go_loopw [3, 6] (fun v iv wr => v = .slice (some ⟨w.heap.size, 0, none⟩) 0 0 ∧ iv = .int .i64 0 ∧ IntSl wr w.heap.size (.slice (some ⟨w.heap.size, 0, none⟩) 0 0) [] ∧ Below w.heap.size w wr) (fun _ _ _ => 0)
    case atStart => exact ⟨rfl, rfl, HO3.out.1, HO3.out.2⟩
    case round =>
      obtain ⟨rfl, rfl, hO, hb⟩ := hrel
      have HO := hide (And.intro hO hb)
      clear hO hb HO3
      go_wp2_with fail
      go_loopw [3] (fun v wx => v = .slice (some ⟨w.heap.size, 0, none⟩) 0 0 ∧ IntSl wx w.heap.size (.slice (some ⟨w.heap.size, 0, none⟩) 0 0) [] ∧ Below w.heap.size w wx) (fun _ _ => 0)
      case atStart => exact ⟨rfl, HO.out.1, HO.out.2⟩
      case round =>
        obtain ⟨rfl, hO, hb⟩ := hrel
        have HO4 := hide (And.intro hO hb)
        clear hO hb HO
        go_wp2_with fail
        refine bodyPost_ret (results_tmp rfl _ _ _) rfl ⟨.slice (some ⟨w.heap.size, 0, none⟩) 0 0, rfl, by rw [HR.out]; exact HO4.out.1, HO4.out.2⟩
  | true =>
    have h7 := tasksOk_len hI
    have HI := hide hI
    have HSL := hide (startsEarlyL_len hI)
    have hen0 := end_nn hI
    have hen1 := end_top hI
    obtain ⟨en, HEN⟩ : ∃ en, Hid (tasksEndL l = en) := ⟨_, hide rfl⟩
    rw [HEN.out] at hen0 hen1
    obtain ⟨ss, HSS⟩ : ∃ ss, Hid (startsEarlyL l = ss) := ⟨_, hide rfl⟩
    rw [HSS.out] at HSL HS2
    rw [HSS.out, HEN.out]
    clear hI
    go_wp2_with fail
    have HA3 : Hid (∀ W, w2.grownBy W (some w.heap.size) → TasksAt W A l) := hide (fun W hg => hA.below (hb2.grown hg hb2.size (fun j hj => by injection hj with hj; omega)))
    have HS3 : Hid (∀ W, w2.grownBy W (some w.heap.size) → IntsAt W A1 ss) := hide (fun W hg => ints_keptW HS2.out (fun b hb => by have := (HF1.out b hb).1; simp at this; omega) hg)
    go_loopw [3, 6] (fun v iv wr => ∃ (k : Nat) (o : Option Nat) (g c4 L : Nat), k ≤ ss.length ∧ iv = .int .i64 k ∧ Hid (lastUpto l k = o) ∧ v = .slice (some ⟨g, 0, none⟩) L c4 ∧ Hid ((lastL o).length = L) ∧ IntSl wr w.heap.size (.slice (some ⟨g, 0, none⟩) L c4) (lastL o) ∧ (g = w.heap.size ∨ w2.heap.size ≤ g) ∧ w2.grownBy wr (some w.heap.size)) (fun _ iv _ => ss.length - (intOf iv).toNat)
    case atStart => exact ⟨0, none, w.heap.size, 0, 0, Nat.zero_le _, rfl, hide rfl, rfl, hide rfl, HO2.out, .inl rfl, World.grownBy.refl _ _⟩
    case round =>
      obtain ⟨k, o, g, c4, L, hk, rfl, HL, rfl, HLL, hO, hgg, hG⟩ := hrel
      have HO := hide hO
      have HG := hide hG
      have hzr := hG.size
      clear hO hG
      by_cases hkl : k < ss.length
      · have hk0 : (0 : Int) ≤ k := by omega
        have hk1 : (k : Int) < ss.length := by omega
        have hkL : k < l.length := by rw [← HSL.out]; exact hkl
        have hk2 : (k : Int) < l.length := by omega
        obtain ⟨x, hx⟩ : ∃ x, ss[k]? = some x := ⟨_, List.getElem?_eq_getElem hkl⟩
        obtain ⟨t, ht⟩ : ∃ t, l[k]? = some t := ⟨_, List.getElem?_eq_getElem hkL⟩
        obtain ⟨sp, hsp⟩ : ∃ sp, t.span = sp := ⟨_, rfl⟩
        have HV : Hid (dnA l k = x + sp) := hide (by unfold dnA stA spanAt; rw [HSS.out, getDT_at hx, getDT_at ht, hsp])
        have hdr := dnA_rng HI.out k
        rw [HV.out] at hdr
        have hw : IntKind.i64.wrap (x + sp) = x + sp := IntWalk.i64_in _ (by omega)
        have HN : Hid (lastUpto l (k + 1) = lastStep o (x + sp == en) k) := hide (by rw [lastUpto_succ, HL.out, HV.out, HEN.out])
        obtain ⟨ab, off, rfl, hbl, hc1⟩ := HS3.out _ HG.out k x hx
        obtain ⟨ab2, off2, A2, c2, rfl, hbl2, hr1, -, -⟩ := HA3.out _ HG.out k t ht
        rw [hsp] at hr1
        clear hx ht hsp hdr
        cases o with
        | some j =>
          obtain rfl : L = 1 := HLL.out.symm
          go_wp2_with fail
          go_quiet (fail)
          go_wp2_with fail
          go_roundw
          case rel => exact ⟨k + 1, some j, g, c4, 1, hkl, by go_num, HN, rfl, hide rfl, HO.out.below (below_drewN (Below.refl _ _) _), hgg, grown_belowW HG.out (below_drewN (Below.refl _ _) _)⟩
          case measure => simp [intOf]; omega
        | none =>
          obtain rfl : L = 0 := HLL.out.symm
          by_cases he : x + sp = en
          · have heb : (x + sp == en) = true := by simpa using he
            go_wp2_with fail
            go_quiet (fail)
            have HO9 : Hid (IntSl (wr.drewN nq) w.heap.size (.slice (some ⟨g, 0, none⟩) 0 c4) []) := hide (HO.out.below (below_drewN (Below.refl _ _) _))
            have HG9 : Hid (w2.grownBy (wr.drewN nq) (some w.heap.size)) := hide (grown_belowW HG.out (below_drewN (Below.refl _ _) _))
            clear HO HG hbl hc1 hbl2 hr1 hzr
            generalize wr.drewN nq = wq at *
            have hzq := HG9.out.size
            go_wp2_with (at_builtin; refine wpList_wantedW (by rfl) (wp_push_intW _ _ (by rfl) w.heap.size (.slice (some ⟨g, 0, none⟩) 0 c4) [] (by rfl) (World.ownsRow.alloc HO9.out _) wq.heap.size (k : Int) (by rfl) (heap_alloc_new wq _) (by simp) (by simp; omega) ?_); intro g' cap w5 hown hgrow hnew; have HOW := hide (And.intro hown (And.intro hgrow hnew)); clear hown hgrow hnew)
            go_roundw
            case rel =>
              refine ⟨k + 1, some k, g', cap, 1, hkl, by go_num, by rw [heb] at HN; exact HN, rfl, hide rfl, HOW.out.1, ?_, grown_eitherW (grown_belowW HG9.out ((Below.refl _ _).alloc (Nat.le_refl _) _)) HOW.out.2.1 hgg⟩
              rcases HOW.out.2.2 with e | e
              · have e : some g = some g' := e
                injection e with e
                subst e
                exact hgg
              · right
                rw [e]
                simp
                omega
            case measure => simp [intOf]; omega
          · have heb : (x + sp == en) = false := by simpa using he
            go_wp2_with fail
            go_quiet (fail)
            go_wp2_with fail
            go_roundw
            case rel => exact ⟨k + 1, none, g, c4, 0, hkl, by go_num, by rw [heb] at HN; exact HN, rfl, hide rfl, HO.out.below (below_drewN (Below.refl _ _) _), hgg, grown_belowW HG.out (below_drewN (Below.refl _ _) _)⟩
            case measure => simp [intOf]; omega
      · obtain rfl : k = ss.length := by omega
        by_cases hl0 : l.length = 0
        · obtain rfl : o = none := by rw [← HL.out, HSL.out, hl0]; rfl
          obtain rfl : L = 0 := HLL.out.symm
          have HO3 := hide (And.intro HO.out (hb2.grown HG.out hb2.size (fun j hj => by injection hj with hj; omega)))
          have HR := hide (way_none hl0)
          clear HO HG hgg hzr
          go_wp2_with fail
          go_loopw [3] (fun v wx => v = .slice (some ⟨g, 0, none⟩) 0 c4 ∧ IntSl wx w.heap.size (.slice (some ⟨g, 0, none⟩) 0 c4) [] ∧ Below w.heap.size w wx) (fun _ _ => 0)
          case atStart => exact ⟨rfl, HO3.out.1, HO3.out.2⟩
          case round =>
            obtain ⟨rfl, hO, hb⟩ := hrel
            have HO4 := hide (And.intro hO hb)
            clear hO hb HO3
            go_wp2_with fail
            refine bodyPost_ret (results_tmp rfl _ _ _) rfl ⟨.slice (some ⟨g, 0, none⟩) 0 c4, rfl, by rw [HR.out]; exact HO4.out.1, HO4.out.2⟩
        · obtain ⟨k0, h1, h2, h3, -⟩ := lastUpto_some HI.out (by omega)
          obtain rfl : o = some k0 := by rw [← HL.out, HSL.out]; exact h1
          obtain rfl : L = 1 := HLL.out.symm
          have HQ : Hid (longestL l = wayGo l l.length k0 [(k0 : Int)]) := hide (by unfold longestL; rw [if_pos HI.out, h1])
          clear h1 h3
          go_wp2_with fail
          go_loopw [3] (fun v wr => ∃ (k f : Nat) (r : List Int) (g c4 L : Nat), k < l.length ∧ k < f ∧ f + L ≤ l.length + 1 ∧ Hid (longestL l = wayGo l f k ((k : Int) :: r)) ∧ v = .slice (some ⟨g, 0, none⟩) L c4 ∧ Hid (((k : Int) :: r).length = L) ∧ IntSl wr w.heap.size (.slice (some ⟨g, 0, none⟩) L c4) ((k : Int) :: r) ∧ w2.grownBy wr (some w.heap.size)) (fun v _ => l.length + 1 - lenV v)
          case atStart => exact ⟨k0, l.length, [], g, c4, 1, h2, h2, by omega, HQ, rfl, hide rfl, HO.out, HG.out⟩
          case round =>
            clear HO HG HQ h2 hgg hzr
            obtain ⟨k, f, r, g, c4, L, hkl, hkf, hfL, HQ, rfl, HLL, hO, hG⟩ := hrel
            have HO := hide hO
            have HG := hide hG
            have hzr := hG.size
            clear hO hG
            have hL1 : 0 < L := by rw [← HLL.out]; simp
            have hL0 : (0 : Int) < L := by omega
            have hk0 : (0 : Int) ≤ k := by omega
            have hk2 : (k : Int) < l.length := by omega
            have hk1 : (k : Int) < ss.length := by rw [HSL.out]; exact hk2
            obtain ⟨x, hx⟩ : ∃ x, ss[k]? = some x := ⟨_, List.getElem?_eq_getElem (by rw [HSL.out]; exact hkl)⟩
            obtain ⟨t, ht⟩ : ∃ t, l[k]? = some t := ⟨_, List.getElem?_eq_getElem hkl⟩
            have HX : Hid (stA l k = x) := hide (by unfold stA; rw [HSS.out, getDT_at hx])
            have hxr := stA_rng HI.out k
            rw [HX.out] at hxr
            have hx0 := hxr.1
            have hx1 := hxr.2
            have hc0 := IntSl.cellAt HO.out (j := 0) (x := (k : Int)) rfl
            obtain ⟨ab, off, rfl, hbl, hc1⟩ := HS3.out _ HG.out k x hx
            by_cases hxp : 0 < x
            · obtain ⟨f, rfl⟩ : ∃ f', f = f' + 1 := ⟨f - 1, by omega⟩
              obtain ⟨a, p1, p2, p3, p4, i0, p5, p6⟩ := prevOf_some HI.out ht (by rw [HX.out]; exact hxp)
              rw [HX.out] at p4
              have HP4 := hide p4
              have HQ2 : Hid (longestL l = wayGo l f a ((a : Int) :: (k : Int) :: r)) := hide (by rw [HQ.out, wayGo, if_pos (by rw [HX.out]; exact hxp), p1])
              obtain ⟨ab2, off2, A2, c2, rfl, hbl2, -, hr2, -⟩ := HA3.out _ HG.out k t ht
              go_wp2_with fail
              clear hc0 hc1 hr2 hbl hbl2 hx0 hx1 hxr
              obtain ⟨m, hm⟩ : ∃ m, t.after.length = m := ⟨_, rfl⟩
              have him : i0 < m := by rw [← hm]; exact (List.getElem?_eq_some_iff.1 p5).1
              have hm6 : m ≤ 1048576 := by rw [← hm]; exact HP.out t (List.mem_of_getElem? ht)
              have HAF := hide (tasksOk_at HI.out ht).2
              have HP6 := hide p6
              have HP5 := hide p5
              have hak : ((a : Int) == (k : Int)) = false := by simp; omega
              have hkk : ((k : Int) == (k : Int)) = true := by simp
              have HT := hide ht
              have HM := hide hm
              have HXS := hide hx
              clear p1 p3 p4 p5 p6 ht hm hx
              go_loopw [3, 8] (fun v iv wr => ∃ (j : Nat) (fd : Bool) (xs : List Int) (g2 c5 L2 : Nat), iv = .int .i64 j ∧ j ≤ m ∧ v = .slice (some ⟨g2, 0, none⟩) L2 c5 ∧ Hid (xs.length = L2) ∧ IntSl wr w.heap.size (.slice (some ⟨g2, 0, none⟩) L2 c5) xs ∧ w2.grownBy wr (some w.heap.size) ∧ Hid (fd = false → xs = (k : Int) :: r ∧ j ≤ i0) ∧ Hid (fd = true → xs = (a : Int) :: (k : Int) :: r)) (fun _ iv _ => m - (intOf iv).toNat)
              case atStart => exact ⟨0, false, _, g, c4, L, rfl, Nat.zero_le _, rfl, HLL, HO.out, HG.out, hide (fun _ => ⟨rfl, Nat.zero_le _⟩), hide (fun h => by cases h)⟩
              case round =>
                clear HO HG hzr
                obtain ⟨j, fd, xs, g2, c5, L2, rfl, hjm, rfl, HL2, hO, hG, HF, HT2⟩ := hrel
                have HO := hide hO
                have HG := hide hG
                have hzr := hG.size
                clear hO hG
                obtain ⟨ab3, off3, A3, c3, he3, hbl3, -, hr3, hI3⟩ := HA3.out _ HG.out k t HT.out
                injection he3 with he3
                injection he3 with he31 he32
                subst he31 he32
                rw [HM.out] at hr3
                cases fd with
                | true =>
                  obtain rfl := HT2.out rfl
                  have hc0 := IntSl.cellAt HO.out (j := 0) (x := (a : Int)) rfl
                  have hL20 : (0 : Int) < L2 := by have := HL2.out; simp only [List.length_cons] at this; omega
                  have HLX : Hid (f + L2 ≤ l.length + 1) := hide (by have := HL2.out; have h5 := HLL.out; simp only [List.length_cons] at this h5; omega)
                  have HLX2 : Hid (L2 = L + 1) := hide (by have := HL2.out; have h5 := HLL.out; simp only [List.length_cons] at this h5; omega)
                  have hlx2 := HLX2.out
                  have hlx := HLX.out
                  by_cases hjl : j < m
                  · have hd : decide ((j : Int) < (m : Int)) = true := decide_eq_true (by omega)
                    go_wp2_with fail
                    go_roundw
                    case rel => exact ⟨a, f, (k : Int) :: r, g2, c5, L2, by omega, by omega, hlx, HQ2, rfl, HL2, HO.out, HG.out⟩
                    case measure => simp [lenV]; omega
                  · have hd : decide ((j : Int) < (m : Int)) = false := decide_eq_false (by omega)
                    go_wp2_with fail
                    go_roundw
                    case rel => exact ⟨a, f, (k : Int) :: r, g2, c5, L2, by omega, by omega, hlx, HQ2, rfl, HL2, HO.out, HG.out⟩
                    case measure => simp [lenV]; omega
                | false =>
                  obtain ⟨rfl, hji⟩ := HF.out rfl
                  have hc0 := IntSl.cellAt HO.out (j := 0) (x := (k : Int)) rfl
                  have hL20 : (0 : Int) < L2 := by have := HL2.out; simp only [List.length_cons] at this; omega
                  have hd : decide ((j : Int) < (m : Int)) = true := decide_eq_true (by omega)
                  have hj0 : (0 : Int) ≤ j := by omega
                  have hj1 : (j : Int) < m := by omega
                  obtain ⟨b, hb⟩ : ∃ b, t.after[j]? = some b := ⟨_, List.getElem?_eq_getElem (by rw [HM.out]; omega)⟩
                  have hbr := HAF.out b (List.mem_of_getElem? hb)
                  obtain ⟨b, rfl, hbk⟩ : ∃ b' : Nat, b = b' ∧ b' < k := ⟨b.toNat, by omega, by omega⟩
                  have hbL : b < l.length := by omega
                  obtain ⟨y, hy⟩ : ∃ y, ss[b]? = some y := ⟨_, List.getElem?_eq_getElem (by rw [HSL.out]; exact hbL)⟩
                  obtain ⟨tb, htb⟩ : ∃ tb, l[b]? = some tb := ⟨_, List.getElem?_eq_getElem hbL⟩
                  obtain ⟨sp, hsp⟩ : ∃ sp, tb.span = sp := ⟨_, rfl⟩
                  have HV : Hid (dnA l b = y + sp) := hide (by unfold dnA stA spanAt; rw [HSS.out, getDT_at hy, getDT_at htb, hsp])
                  have hdr := dnA_rng HI.out b
                  rw [HV.out] at hdr
                  have hw : IntKind.i64.wrap (y + sp) = y + sp := IntWalk.i64_in _ (by omega)
                  obtain ⟨ab4, off4, rfl, hbl4, hc4⟩ := hI3 j b hb
                  obtain ⟨ab5, off5, A5, c6, he5, hbl5, hr5, -, -⟩ := HA3.out _ HG.out b tb htb
                  injection he5 with he5
                  injection he5 with he51 he52
                  subst he51 he52
                  rw [hsp] at hr5
                  obtain ⟨ab6, off6, he6, hbl6, hc6⟩ := HS3.out _ HG.out b y hy
                  injection he6 with he6
                  injection he6 with he61 he62
                  subst he61 he62
                  obtain ⟨ab7, off7, he7, hbl7, hc7⟩ := HS3.out _ HG.out k x HXS.out
                  injection he7 with he7
                  injection he7 with he71 he72
                  subst he71 he72
                  have hb0 : (0 : Int) ≤ b := by omega
                  have hb1 : (b : Int) < l.length := by omega
                  have hb2 : (b : Int) < ss.length := by rw [HSL.out]; exact hb1
                  have HB := hide hb
                  clear hy htb hsp hdr hbr hb hI3
                  by_cases hji2 : j = i0
                  · have hab : (b : Int) = a := by
                      have := HB.out
                      rw [hji2, HP5.out] at this
                      injection this with this
                      exact this.symm
                    subst hji2
                    obtain rfl : b = a := by omega
                    have hyx : (y + sp == x) = true := by
                      have := HP4.out
                      rw [HV.out] at this
                      simpa using this
                    clear hab
                    go_wp2_with fail
                    go_quiet (fail)
                    have HO9 : Hid (IntSl (wr.drewN nq) w.heap.size (.slice (some ⟨g2, 0, none⟩) L2 c5) ((k : Int) :: r)) := hide (HO.out.below (below_drewN (Below.refl _ _) _))
                    have HG9 : Hid (w2.grownBy (wr.drewN nq) (some w.heap.size)) := hide (grown_belowW HG.out (below_drewN (Below.refl _ _) _))
                    clear HO HG hbl3 hbl4 hbl5 hbl6 hbl7 hc0 hc4 hc6 hc7 hr3 hr5 hzr
                    generalize wr.drewN nq = wq at *
                    have hzq := HG9.out.size
                    have HO8 := hide (HO9.out.below (w' := wq.alloc (.cells #[.int .i64 (b : Int)] 3)) ((Below.refl _ _).alloc (Nat.le_refl _) _))
                    have HLIT : Hid (IntSl (wq.alloc (.cells #[.int .i64 (b : Int)] 3)) wq.heap.size (.slice (some ⟨wq.heap.size, 0, none⟩) 1 1) [(b : Int)]) := hide (World.ownsRow_lit wq #[.int .i64 (b : Int)] 1 (Nat.le_refl _) (by unfold maxLen; omega) rfl)
                    have hL2b : L2 ≤ 1048570 := by have := HL2.out; have h5 := HLL.out; simp only [List.length_cons] at this h5; omega
                    go_wp2_with (at_builtin; refine wpList_wantedW (by rfl) (wp_spread_int _ _ (by rfl) wq.heap.size (.slice (some ⟨wq.heap.size, 0, none⟩) 1 1) [(b : Int)] (by rfl) HLIT.out (by simp) ⟨g2, 0, none⟩ L2 c5 ((k : Int) :: r) HL2.out (by rfl) (IntSl.ints HO8.out) (by simp; omega) (by simp) ?_); intro g' cap w5 hown hgrow; have HOW := hide (And.intro hown hgrow); clear hown hgrow)
                    go_roundw
                    case rel =>
                      refine ⟨j + 1, true, (b : Int) :: (k : Int) :: r, g', cap, 1 + L2, by go_num, by omega, rfl, hide (by have := HL2.out; simp only [List.length_cons] at this ⊢; omega), ownsRow_mono HOW.out.1 (by omega), grown_eitherW (grown_belowW HG9.out ((Below.refl _ _).alloc (Nat.le_refl _) _)) HOW.out.2 (.inr hzq), hide (fun h => by cases h), hide (fun _ => rfl)⟩
                    case measure => simp [intOf]; omega
                  · have hyx : (y + sp == x) = false := by
                      have := HP6.out j (by omega) b HB.out
                      rw [Int.toNat_natCast, HV.out, HX.out] at this
                      simpa using this
                    go_wp2_with fail
                    go_quiet (fail)
                    go_wp2_with fail
                    go_roundw
                    case rel => exact ⟨j + 1, false, _, g2, c5, L2, by go_num, by omega, rfl, HL2, HO.out.below (below_drewN (Below.refl _ _) _), grown_belowW HG.out (below_drewN (Below.refl _ _) _), hide (fun _ => ⟨rfl, by omega⟩), hide (fun h => by cases h)⟩
                    case measure => simp [intOf]; omega
            · have HE : Hid (longestL l = (k : Int) :: r) := hide (by
                rw [HQ.out]
                cases f with
                | zero => rfl
                | succ f => rw [wayGo, if_neg (by rw [HX.out]; exact hxp)])
              go_wp2_with fail
              refine bodyPost_ret (results_tmp rfl _ _ _) rfl ⟨.slice (some ⟨g, 0, none⟩) L c4, rfl, by rw [HE.out]; exact HO.out, hb2.grown HG.out hb2.size (fun j hj => by injection hj with hj; omega)⟩
end Go.Proofs.YtgagfaajilbmmaaDoor

namespace Go.Proofs.YtgagfaajilbmmaaDoor
open Go.RowKit Go.ChangeShapes Go.WideShapes Go.ChangeAt Go.Deep

set_option maxRecDepth 100000 in
set_option maxHeartbeats 1000000 in
/-- The first step that is done at a time, if one is. -/
theorem firstDoneAt_any (A : Option Addr) (c : Nat) (bds : List (Nat × Int)) (t : Int) (i : Nat) (q : Nat) (w : World) (hA : StepsAt w A bds) (hl : bds.length ≤ 1048576) (HQ : Hid (bds[i]? = some (q, t))) (HF : Hid (∀ j, j < i → ∀ p, bds[j]? = some p → p.2 ≠ t)) :
    Calls Tryd.prog 77 #[.slice A bds.length c, .int .i64 t] w fun e w' => e = .returned (.pointer (some ⟨q, 0, none⟩)) ∧ Below w.heap.size w w' := by
  have hi : i < bds.length := (List.getElem?_eq_some_iff.1 HQ.out).1
  have HA := hide hA
  clear hA
  go_enter Tryd.func77, Tryd.ntmps77
  go_wp2_with fail
  go_loopw [9] (fun iv wr => ∃ k : Nat, k ≤ i ∧ iv = .int .i64 k ∧ Below w.heap.size w wr) (fun iv _ => bds.length - (intOf iv).toNat)
  case atStart => exact ⟨0, Nat.zero_le _, rfl, Below.refl _ _⟩
  case round =>
    obtain ⟨k, hk, rfl, hb⟩ := hrel
    obtain ⟨⟨pb, pd⟩, hp⟩ : ∃ p, bds[k]? = some p := ⟨_, List.getElem?_eq_getElem (by omega)⟩
    obtain ⟨ab, off, rfl, hbl, hc1, hst⟩ := (HA.out.below hb) k (pb, pd) hp
    have hk0 : (0 : Int) ≤ k := by omega
    have hk1 : (k : Int) < bds.length := by omega
    have HDN := hide (done_any pb pd wr hst)
    clear hst
    by_cases hki : k = i
    · subst hki
      have hpe := HQ.out
      rw [hp] at hpe
      injection hpe with hpe
      injection hpe with h1 h2
      subst h1 h2
      have htt : (pd == pd) = true := by simp
      clear hp
      go_wp2_with fail
      refine HDN.out.mono ?_
      rintro e w' ⟨rfl, m, rfl⟩
      go_wp2_with fail
      go_ret
      exact ⟨rfl, below_drewN hb _⟩
    · have htt : (pd == t) = false := by
        have := HF.out k (by omega) _ hp
        simpa using this
      clear hp
      go_wp2_with fail
      refine HDN.out.mono ?_
      rintro e w' ⟨rfl, m, rfl⟩
      go_wp2_with fail
      go_roundw
      case rel => exact ⟨k + 1, by omega, by go_num, below_drewN hb _⟩
      case measure => simp [intOf]; omega

theorem infoStepW : (Tryd.prog.info? 99).map (·.size) = some 3 := by kernel_rfl
set_option maxRecDepth 100000 in
set_option maxHeartbeats 1000000 in
theorem index_any (g n c k : Nat) (G : Nat → Nat) (w : World) (hP : PtrRow w g n n G) (hn : n ≤ 1048576) (hk : k < n) (HF : Hid (∀ j, j < k → G j ≠ G k)) (HH : Hid (∀ j, j < n → ∃ cs t, w.heap[G j]? = some (.cells cs t (0, 0)))) :
    Calls Tryd.prog 78 #[.slice (some ⟨g, 0, none⟩) n c, .pointer (some ⟨G k, 0, none⟩)] w fun e w' => e = .returned (.int .i64 k) ∧ Below w.heap.size w w' := by
  have hgl := World.rowIs.lt hP
  have HP := hide hP
  clear hP
  go_enter Tryd.func78, Tryd.ntmps78
  go_wp2_with fail
  go_loopw [8] (fun iv wr => ∃ j : Nat, j ≤ k ∧ iv = .int .i64 j ∧ Below w.heap.size w wr) (fun iv _ => n - (intOf iv).toNat)
  case atStart => exact ⟨0, Nat.zero_le _, rfl, Below.refl _ _⟩
  case round =>
    obtain ⟨j, hj, rfl, hb⟩ := hrel
    have hcp := (hb.cell (p := ⟨g, j, none⟩) hgl).trans (PtrRow.at_ HP.out (show j < n by omega) (show j < n by omega))
    have hj0 : (0 : Int) ≤ j := by omega
    have hj1 : (j : Int) < n := by omega
    obtain ⟨inf, hinf, hsz⟩ := Option.map_eq_some_iff.1 infoStepW
    by_cases hjk : j = k
    · subst hjk
      have heq := run_eql_ptr_same wr ⟨G j, 0, none⟩ (tp := 95) (te := 99) (P := Tryd.prog) rfl hinf
      go_wp2_with fail
      go_ret
      exact ⟨rfl, by first | exact hb | exact below_drewN hb _⟩
    · have hne : G k ≠ G j := fun e => HF.out j (by omega) e.symm
      obtain ⟨ca, ta, ha⟩ := HH.out k hk
      obtain ⟨cb, tb, hbk⟩ := HH.out j (by omega)
      have heq := run_eql_ptr_other wr (a := ⟨G k, 0, none⟩) (b := ⟨G j, 0, none⟩) (tp := 95) (te := 99) (P := Tryd.prog) rfl hinf (by omega) (by intro e; injection e with e; exact hne e) ((hb.block _ (Array.getElem?_eq_some_iff.1 ha).1).trans ha) ((hb.block _ (Array.getElem?_eq_some_iff.1 hbk).1).trans hbk)
      go_wp2_with fail
      go_roundw
      case rel => exact ⟨j + 1, by omega, by go_num, by first | exact hb | exact below_drewN hb _⟩
      case measure => simp [intOf]; omega

set_option maxRecDepth 100000 in
set_option maxHeartbeats 1000000 in
theorem reverse_any (lo g n c : Nat) (xs : List Int) (w : World) (hO : IntSl w lo (.slice (some ⟨g, 0, none⟩) n c) xs) (HN : Hid (xs.length = n)) (hn : n ≤ 1048576) (hn0 : 0 < n) :
    Calls Tryd.prog 79 #[.slice (some ⟨g, 0, none⟩) n c] w fun e w' => e = .returned (.tuple #[]) ∧ IntSl w' lo (.slice (some ⟨g, 0, none⟩) n c) xs.reverse ∧ w.grownBy w' (some g) := by
  have HO := hide hO
  clear hO
  go_enter Tryd.func79, Tryd.ntmps79
  go_wp2_with fail
  go_loopw [2, 3] (fun iv jv wr => ∃ (i j : Nat) (ys : List Int), i ≤ j + 1 ∧ i + j + 1 = n ∧ iv = .int .i64 i ∧ jv = .int .i64 j ∧ Hid (ys.length = n ∧ ∀ m, m < n → ys[m]? = if m < i ∨ j < m then xs[n - 1 - m]? else xs[m]?) ∧ IntSl wr lo (.slice (some ⟨g, 0, none⟩) n c) ys ∧ w.grownBy wr (some g)) (fun iv _ _ => n - (intOf iv).toNat)
  case atStart => exact ⟨0, n - 1, xs, by omega, by omega, rfl, by congr 1; omega, hide ⟨HN.out, fun m _ => by rw [if_neg (by omega)]⟩, HO.out, World.grownBy.refl _ _⟩
  case round =>
    clear HO
    obtain ⟨i, j, ys, hi, hijn, rfl, rfl, HY, hO, hG⟩ := hrel
    have HO := hide hO
    have HG := hide hG
    clear hO hG
    by_cases hij : i < j
    · have hin : i < n := by omega
      have hjn : j < n := by omega
      obtain ⟨x, hx⟩ : ∃ x, ys[i]? = some x := ⟨_, List.getElem?_eq_getElem (by rw [HY.out.1]; exact hin)⟩
      obtain ⟨y, hy⟩ : ∃ y, ys[j]? = some y := ⟨_, List.getElem?_eq_getElem (by rw [HY.out.1]; exact hjn)⟩
      have hc1 := IntSl.cellAt HO.out hx
      have hc2 := IntSl.cellAt HO.out hy
      have hf1 := IntSl.frozenAt HO.out i
      have HS1 := hide (IntSl.store HO.out i y)
      have HS2 := hide (IntSl.store HS1.out j x)
      have hf2 := IntSl.frozenAt HS1.out j
      have HG2 := hide ((HG.out.trans (IntSl.grownSet HO.out i y)).trans (IntSl.grownSet HS1.out j x))
      have HY2 : Hid (((ys.set i y).set j x).length = n ∧ ∀ m, m < n → ((ys.set i y).set j x)[m]? = if m < i + 1 ∨ j - 1 < m then xs[n - 1 - m]? else xs[m]?) := hide (by
        have hlen := HY.out.1
        have hxi := HY.out.2 i hin
        have hyj := HY.out.2 j hjn
        rw [if_neg (by omega), hx] at hxi
        rw [if_neg (by omega), hy] at hyj
        refine ⟨by simp [hlen], fun m hm => ?_⟩
        by_cases e1 : m = j
        · rw [if_pos (by omega), e1, List.getElem?_set_self (by simp; omega), hxi]
          congr 1
          omega
        · rw [List.getElem?_set_ne (fun e => e1 e.symm)]
          by_cases e2 : m = i
          · rw [if_pos (by omega), e2, List.getElem?_set_self (by omega), hyj]
            congr 1
            omega
          · rw [List.getElem?_set_ne (fun e => e2 e.symm), HY.out.2 m hm]
            by_cases e3 : m < i ∨ j < m
            · rw [if_pos e3, if_pos (by omega)]
            · rw [if_neg e3, if_neg (by omega)])
      have hi0 : (0 : Int) ≤ i := by omega
      have hi1 : (i : Int) < n := by omega
      have hj0 : (0 : Int) ≤ j := by omega
      have hj1 : (j : Int) < n := by omega
      have hd : decide ((i : Int) < (j : Int)) = true := decide_eq_true (by omega)
      clear hx hy
      go_wp2_with fail
      go_region
      go_wp2_with fail
      go_roundw
      case rel => exact ⟨i + 1, j - 1, _, by omega, by omega, by go_num, by congr 1; omega, HY2, HS2.out.below (Below.refl _ _).drew, grown_belowW HG2.out (Below.refl _ _).drew⟩
      case measure => simp [intOf]; omega
    · have hd : decide ((i : Int) < (j : Int)) = false := decide_eq_false (by omega)
      have hye : Hid (ys = xs.reverse) := hide (by
        apply List.ext_getElem?
        intro m
        by_cases hm : m < n
        · rw [List.getElem?_reverse (by rw [HN.out]; exact hm), HN.out, HY.out.2 m hm]
          by_cases e : m < i ∨ j < m
          · rw [if_pos e]
          · rw [if_neg e]
            congr 1
            omega
        · rw [List.getElem?_eq_none (by rw [HY.out.1]; omega), List.getElem?_eq_none (by rw [List.length_reverse, HN.out]; omega)])
      rw [hye.out] at HO
      go_wp2_with fail
      exact bodyPost_end (results_none rfl _ _ _) rfl ⟨rfl, HO.out, HG.out⟩

theorem StepsR.inj {w : World} {lo n : Nat} {l : List Task} {o : List Int} {G H : Nat → Nat} (h : StepsR w lo l o n G H) (hn : n ≤ l.length) (ho : n ≤ o.length) {k : Nat} (hk : k < n) : ∀ j, j < k → G j ≠ G k := fun j hj => (h.apart hn ho (i := j) (k := k) (by omega) hk).2 (by omega)
theorem StepsR.cells {w : World} {lo n : Nat} {l : List Task} {o : List Int} {G H : Nat → Nat} (h : StepsR w lo l o n G H) (hn : n ≤ l.length) (ho : n ≤ o.length) : ∀ j, j < n → ∃ cs t, w.heap[G j]? = some (.cells cs t (0, 0)) := fun j hj => by
  obtain ⟨-, -, -, hr, -⟩ := h j _ _ hj (List.getElem?_eq_getElem (show j < l.length by omega)) (List.getElem?_eq_getElem (show j < o.length by omega))
  obtain ⟨cs, hb, -⟩ := hr
  exact ⟨cs, _, hb⟩

set_option maxRecDepth 100000 in
set_option maxHeartbeats 4000000 in
theorem implLongestWay_any (A : Option Addr) (c : Nat) (l : List Task) (w : World) (hA : TasksAt w A l) (hl : l.length ≤ 1048576) (hp : ∀ x ∈ l, x.after.length ≤ 1048576) :
    Calls Tryd.prog 31 #[.slice A l.length c] w fun e w' => ∃ v, e = .returned v ∧ IntSl w' w.heap.size v (longestL l) ∧ Below w.heap.size w w' := by
  have HP := hide hp
  clear hp
  cases hI : tasksOk l with
  | false =>
    have HI := hide hI
    have H0 := hide (way_no hI)
    clear hI
    go_enter Tryd.func31, Tryd.ntmps31
    go_wp2_with fail
    refine (implTasksValid_any _ _ _ _ hA hl HP.out).mono ?_
    rintro e w1 ⟨rfl, hB1⟩
    rw [HI.out]
    go_wp2_with fail
    refine bodyPost_ret (results_tmp rfl _ _ _) rfl ⟨.slice none 0 0, rfl, by rw [H0.out]; exact World.ownsRow_nil _ _ _ _, hB1⟩
  | true =>
    have HI := hide hI
    have HE : Hid (maxFrom 0 (donesL l) = tasksEndL l) := hide (by unfold tasksEndL; rw [if_pos hI])
    have HS := hide (tasks_span hI)
    have h7 := tasksOk_len hI
    have HSL := hide (startsEarlyL_len hI)
    clear hI
    by_cases hl0 : l.length = 0
    · have H0 := hide (way_none hl0)
      have hlb : ((l.length : Int) == 0) = true := by simp [hl0]
      clear hl0
      go_enter Tryd.func31, Tryd.ntmps31
      go_wp2_with fail
      refine (implTasksValid_any _ _ _ _ hA hl HP.out).mono ?_
      rintro e w1 ⟨rfl, hB1⟩
      rw [HI.out]
      go_wp2_with fail
      refine bodyPost_ret (results_tmp rfl _ _ _) rfl ⟨.slice none 0 0, rfl, by rw [H0.out]; exact World.ownsRow_nil _ _ _ _, hB1⟩
    · have hlp : 0 < l.length := by omega
      have hlb : ((l.length : Int) == 0) = false := beq_false_of_ne (by omega)
      obtain ⟨k0, q1, q2, q3, q4⟩ := lastUpto_some HI.out hlp
      have HQ : Hid (longestL l = wayGo l l.length k0 [(k0 : Int)]) := hide (by unfold longestL; rw [if_pos HI.out, q1])
      clear hl0 q1
      go_enter Tryd.func31, Tryd.ntmps31
      go_wp2_with fail
      refine (implTasksValid_any _ _ _ _ hA hl HP.out).mono ?_
      rintro e w1 ⟨rfl, hB1⟩
      rw [HI.out]
      have hsz1 := hB1.size
      go_wp2_with fail
      refine (stepsOfR_any _ _ _ _ (hA.below hB1) HI HP.out).mono ?_
      rintro e w2 ⟨rfl, ⟨G, H, hR, hU⟩, hB2⟩
      have hb2 := next hB1 hB2
      have hEN := endsOf_at hR (hU.upto HS.out (startsEarlyL_ok HI.out)) HSL.out
      have hE := endOf_any _ l.length _ w2 hEN (by rw [endsOf_len]; exact hl)
      rw [endsOf_len, endsOf_dones HSL.out, show maxFrom 0 (List.zipWith (fun s x => s + x.span) (startsEarlyL l) l) = tasksEndL l from HE.out] at hE
      have HEC := hide hE
      have HEN := hide hEN
      have HP2 := hide hR
      have HS2 := hide hU
      clear hE hR hU hEN
      go_wp2_with fail
      refine HEC.out.mono ?_
      rintro e w3 ⟨rfl, hB3⟩
      have hb3 := next hb2 hB3
      have hF := firstDoneAt_any _ l.length (endsOf G l (startsEarlyL l)) (tasksEndL l) k0 (G k0) w3 (HEN.out.below hB3) (by rw [endsOf_len]; exact hl)
        (hide (by rw [endsOf, List.getElem?_map, List.getElem?_range q2]; simp only [Option.map_some]; congr 2))
        (hide (fun j hj p hpj => by
          rw [endsOf, List.getElem?_map, List.getElem?_range (by omega)] at hpj
          simp only [Option.map_some] at hpj
          injection hpj with hpj
          rw [← hpj]
          exact q4 j hj))
      rw [endsOf_len] at hF
      have HFD := hide hF
      have HP3 := hide (HP2.out.below hB3)
      have HS3 := hide (HS2.out.below hB3)
      clear hF q3 q4 HEN HEC HP2 HS2
      go_wp2_with fail
      refine HFD.out.mono ?_
      rintro e w4 ⟨rfl, hB4⟩
      have hb4 := next hb3 hB4
      have HP4 := hide (HP3.out.below hB4)
      have HS4 := hide (HS3.out.below hB4)
      have HIX : Hid (∀ (W : World) (k : Nat), Below w4.heap.size w4 W → k < l.length → Calls Tryd.prog 78 #[.slice (some ⟨w1.heap.size, 0, none⟩) l.length l.length, .pointer (some ⟨G k, 0, none⟩)] W fun e w' => e = .returned (.int .i64 k) ∧ Below W.heap.size W w') := hide (fun W k hW hk =>
        index_any w1.heap.size l.length l.length k G W (HP4.out.below hW) hl hk (hide (HS4.out.inj (Nat.le_refl _) (by rw [HSL.out]; exact Nat.le_refl _) hk)) (hide ((HS4.out.below hW).cells (Nat.le_refl _) (by rw [HSL.out]; exact Nat.le_refl _))))
      clear HFD HP3 HS3
      go_wp2_with fail
      refine (HIX.out w4 k0 (Below.refl _ _) q2).mono ?_
      rintro e w5 ⟨rfl, hB5⟩
      have hsz5 := hB5.size
      have HW5 : Hid (IntSl (w5.alloc (.cells #[.int .i64 (k0 : Int)] 3)) w4.heap.size (.slice (some ⟨w5.heap.size, 0, none⟩) 1 1) [(k0 : Int)]) := hide (World.ownsRow_lit w5 #[.int .i64 (k0 : Int)] 1 hsz5 (by unfold maxLen; omega) rfl)
      have HB5 : Hid (Below w4.heap.size w4 (w5.alloc (.cells #[.int .i64 (k0 : Int)] 3))) := hide (hB5.alloc hsz5 _)
      go_wp2_with fail
      go_loopw [4, 5] (fun pv v wr => ∃ (k f : Nat) (r : List Int) (g c4 L : Nat), k < l.length ∧ k < f ∧ f + L ≤ l.length + 1 ∧ Hid (longestL l = wayGo l f k ((k : Int) :: r)) ∧ pv = .pointer (some ⟨G k, 0, none⟩) ∧ v = .slice (some ⟨g, 0, none⟩) L c4 ∧ Hid (((k : Int) :: r).length = L) ∧ IntSl wr w4.heap.size (.slice (some ⟨g, 0, none⟩) L c4) ((k : Int) :: r).reverse ∧ Below w4.heap.size w4 wr) (fun _ v _ => l.length + 1 - lenV v)
      case atStart => exact ⟨k0, l.length, [], w5.heap.size, 1, 1, q2, q2, by omega, HQ, rfl, rfl, hide rfl, HW5.out, HB5.out⟩
      case round =>
        clear HW5 HB5 HQ hB5 hsz5 q2
        obtain ⟨k, f, r, g, c4, L, hkl, hkf, hfL, HQ, rfl, rfl, HLL, hO, hb⟩ := hrel
        have HO := hide hO
        have hzr := hb.size
        clear hO
        have hL1 : 0 < L := by rw [← HLL.out]; simp
        obtain ⟨x, hx⟩ : ∃ x, (startsEarlyL l)[k]? = some x := ⟨_, List.getElem?_eq_getElem (by rw [HSL.out]; exact hkl)⟩
        obtain ⟨t, ht⟩ : ∃ t, l[k]? = some t := ⟨_, List.getElem?_eq_getElem hkl⟩
        have HX : Hid (stA l k = x) := hide (by unfold stA; rw [getDT_at hx])
        have HSr := hide (HS4.out.below hb)
        obtain ⟨hr1, hr2, hr3, hr4, hr5⟩ := HSr.out k t x hkl ht hx
        have hc1 := stepRow_1 hr4
        have hc2 := stepRow_2 hr4
        by_cases hxp : 0 < x
        · obtain ⟨f, rfl⟩ : ∃ f', f = f' + 1 := ⟨f - 1, by omega⟩
          obtain ⟨a, p1, p2, p3, p4, i0, p5, p6⟩ := prevOf_some HI.out ht (by rw [HX.out]; exact hxp)
          have HQ2 : Hid (longestL l = wayGo l f a ((a : Int) :: (k : Int) :: r)) := hide (by rw [HQ.out, wayGo, if_pos (by rw [HX.out]; exact hxp), p1])
          have hU := HSr.out.upto HS.out (startsEarlyL_ok HI.out)
          have hBA := before_at (k := k) (fun i y s hi => hU i y s (by omega)) hr5 rfl (by omega) (by rw [HSL.out]; omega) (tasksOk_at HI.out ht).2
          have hF := firstDoneAt_any _ t.after.length _ x i0 (G a) wr.drew (hBA.below (Below.refl _ _).drew) (by rw [List.length_map]; exact HP.out t (List.mem_of_getElem? ht))
            (hide (by
              rw [List.getElem?_map, p5, Option.map_some, Int.toNat_natCast]
              congr 2
              rw [← HX.out, ← p4]
              rfl))
            (hide (fun j hj p hpj => by
              rw [List.getElem?_map] at hpj
              obtain ⟨b, hb', e⟩ := Option.map_eq_some_iff.1 hpj
              rw [← e, ← HX.out]
              exact p6 j hj b hb'))
          rw [List.length_map] at hF
          have HFD := hide hF
          have haL : a < l.length := by omega
          have hak : a < f := by omega
          clear hF hBA hU p1 p2 p3 p4 p5 p6 hr1 hr2 hr3 hr4 hr5 hx ht HQ
          go_wp2_with fail
          refine still_tail_drew 8 (by kernel_rfl) (by kernel_rfl) ?_
          simp only [List.take_succ_cons, List.take_zero, List.drop_succ_cons, List.drop_zero]
          repeat still_step
          refine wpStill_nil ?_
          go_wp2_with fail
          refine HFD.out.mono ?_
          rintro e w6 ⟨rfl, hB6⟩
          have hb6 : Below w4.heap.size w4 w6 := hb.trans ((Below.refl _ _).drew.trans (hB6.mono (by simp; omega)))
          have HO6 := hide (HO.out.below ((Below.refl _ _).drew.trans (hB6.mono (by simp))))
          clear hB6 HO HFD hc1 hc2 hb
          go_wp2_with fail
          refine (HIX.out w6 a hb6 haL).mono ?_
          rintro e w7 ⟨rfl, hB7⟩
          have hb7 := hb6.trans (hB7.mono hb6.size)
          have HO7 := hide (HO6.out.below hB7)
          have hzs := hb7.size
          have HLO := hide (World.ownsRow.lt HO7.out)
          have hrl : ((k : Int) :: r).reverse.length = L := by rw [List.length_reverse, HLL.out]
          obtain ⟨xs, hxs⟩ : ∃ xs, ((k : Int) :: r).reverse = xs := ⟨_, rfl⟩
          have HXS : Hid (xs ++ [(a : Int)] = ((a : Int) :: (k : Int) :: r).reverse) := hide (by rw [← hxs, List.reverse_cons (a := (a : Int))])
          rw [hxs] at hrl HO7
          clear HO6 hb6 hB7 hxs
          subst hrl
          go_wp2_with (at_builtin; refine wpList_wantedW (by rfl) (wp_push_intW _ _ (by rfl) w4.heap.size (.slice (some ⟨g, 0, none⟩) xs.length c4) xs (by rfl) (World.ownsRow.alloc HO7.out _) w7.heap.size (a : Int) (by rfl) (heap_alloc_new w7 _) (by omega) (by simp; omega) ?_); intro g' cap w8 hown hgrow hnew; have HOW := hide (And.intro hown hgrow); clear hown hgrow hnew)
          go_roundw
          case rel =>
            exact ⟨a, f, (k : Int) :: r, g', cap, xs.length + 1, haL, hak, by omega, HQ2, rfl, rfl, hide (by have := HLL.out; simp only [List.length_cons] at this ⊢; omega), by rw [← HXS.out]; exact HOW.out.1, (hb7.alloc hzs _).grown HOW.out.2 (by simp; omega) (fun j hj => (HLO.out j hj).1)⟩
          case measure => simp [lenV]; omega
        · have HE : Hid (longestL l = (k : Int) :: r) := hide (by
            rw [HQ.out]
            cases f with
            | zero => rfl
            | succ f => rw [wayGo, if_neg (by rw [HX.out]; exact hxp)])
          have HRV := hide (reverse_any w4.heap.size g L c4 _ wr HO.out (hide (by rw [List.length_reverse, HLL.out])) (by omega) hL1)
          have hgl := (World.ownsRow.lt HO.out g rfl).1
          clear hr1 hr2 hr3 hr4 hr5
          go_wp2_with fail
          refine HRV.out.mono ?_
          rintro e w6 ⟨rfl, hO6, hG6⟩
          rw [List.reverse_reverse] at hO6
          have hb6 := hb.grown hG6 hzr (fun j hj => by injection hj with hj; omega)
          have HO6 := hide hO6
          clear hO6 hG6
          go_wp2_with fail
          refine bodyPost_ret (results_tmp rfl _ _ _) rfl ⟨.slice (some ⟨g, 0, none⟩) L c4, rfl, by rw [HE.out]; exact ownsRow_mono HO6.out hb4.size, next hb4 hb6⟩
end Go.Proofs.YtgagfaajilbmmaaDoor
