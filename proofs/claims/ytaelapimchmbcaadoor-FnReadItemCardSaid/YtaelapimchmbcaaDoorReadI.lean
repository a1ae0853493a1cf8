/- ReadI: contracts of readNumber, readParts and ReadItem of the program.
   Conditions: the library's variables hold what their types ask; the bounds in each statement. -/
import Derived.Test.YtaelapimchmbcaaDoorReadMath
import Derived.Test.YtaelapimchmbcaaDoorDraw2
import Derived.Test.YtaelapimchmbcaaDoorSh
import Derived.Test.YtaelapimchmbcaaDoorRead
import Derived.Test.YtaelapimchmbcaaDoorLots
import Derived.Lib.SmallJoins
import Derived.Deep.Onto
namespace Go.Proofs.YtaelapimchmbcaaDoor
open Go.RowKit Go.ChangeShapes Go.WideShapes Go.ChangeAt Go.Deep

/-- The library's variables that reading comes to. -/
structure LibAt (w : World) : Prop where
  max : ∃ m, w.cell? ⟨0, 0, none⟩ = some (.int .i64 m)
  syn : ∃ ev, w.cell? ⟨2, 0, none⟩ = some ev ∧ (ev = .nilIface ∨ ∃ te pe, ev = .iface te pe)
  rng : ∃ ev, w.cell? ⟨3, 0, none⟩ = some ev ∧ (ev = .nilIface ∨ ∃ te pe, ev = .iface te pe)
theorem LibAt.below {w w' : World} (h : LibAt w) (hb : Below w.heap.size w w') : LibAt w' := by
  obtain ⟨⟨m, h1⟩, ⟨e1, h2, h3⟩, ⟨e2, h4, h5⟩⟩ := h
  exact ⟨⟨m, (hb.cell (cell_lt h1).1).trans h1⟩, ⟨e1, (hb.cell (cell_lt h2).1).trans h2, h3⟩, ⟨e2, (hb.cell (cell_lt h4).1).trans h4, h5⟩⟩
theorem LibAt.drew {w : World} (h : LibAt w) : LibAt w.drew := h.below (Below.refl _ _).drew

theorem cutI_any (t : List UInt8) (c : UInt8) (w : World) (ht : t.length ≤ 1048576) (hL : LibAt w) :
    Calls Tryd.prog 27 #[.string ⟨t.toArray⟩, .string ⟨#[c]⟩] w fun e w' => (∃ b, e = .returned (.tuple #[.string ⟨(Lib.cut t [c]).1.toArray⟩, .string ⟨(Lib.cut t [c]).2.1.toArray⟩, .bool b])) ∧ Below w.heap.size w w' := by
  obtain ⟨m, hm⟩ := hL.max
  have := Tryd.strings_Cut ⟨t.toArray⟩ ⟨#[c]⟩ m w (by show t.toArray.size < _; simp; omega) hm
  refine this.mono ?_
  rintro e w' ⟨rfl, n, rfl⟩
  exact ⟨⟨_, rfl⟩, below_drewN (Below.refl _ _) n⟩

theorem atoi_rest {t : List UInt8} (h1 : ¬ ∃ v, Lib.atoiAll t = .ok v) (h2 : ¬ Lib.atoiAll t = .range) : Lib.atoiAll t = Lib.atoiAll [] := by
  cases e : Lib.atoiAll t with
  | ok v => exact absurd ⟨v, e⟩ h1
  | range => exact absurd e h2
  | _ => rfl

set_option maxRecDepth 100000 in
set_option maxHeartbeats 2000000 in
theorem readNumber_any (t : List UInt8) (w : World) (ht : t.length ≤ 1048576) (hL : LibAt w) :
    Calls Tryd.prog 28 #[.string ⟨t.toArray⟩] w fun e w' => e = .returned (.int .i64 (numI t)) ∧ Below w.heap.size w w' := by
  by_cases q1 : ∃ v, Lib.atoiAll t = .ok v
  · obtain ⟨v, hn⟩ := q1
    have HR : Hid (numI t = v) := hide (by unfold numI; rw [hn])
    have hc := Tryd.strconv_Atoi_ok ⟨t.toArray⟩ (by show t.toArray.size ≤ _; simp; omega) v (by simpa using hn) w
    go_enter Tryd.func28, Tryd.ntmps28
    go_wp2_with fail
    refine hc.mono ?_
    rintro e w1 ⟨rfl, hw⟩
    have hb : Below w.heap.size w w1 := by
      rcases hw with rfl | ⟨q, rfl⟩
      · exact Below.refl _ _
      · exact Go.Joins.below_bytesWorld _ _ _ _ (Nat.le_refl _)
    go_wp2_with fail
    go_ret
    exact ⟨by rw [HR.out]; rfl, hb⟩
  · by_cases hn : Lib.atoiAll t = .range
    · have HR : Hid (numI t = -1) := hide (by unfold numI; rw [hn])
      obtain ⟨ev, h1, h2⟩ := hL.rng
      have hc := Tryd.strconv_Atoi_range ⟨t.toArray⟩ (by show t.toArray.size ≤ _; simp; omega) (by simpa using hn) ev w h1 h2
      go_enter Tryd.func28, Tryd.ntmps28
      go_wp2_with fail
      refine hc.mono ?_
      rintro e w1 ⟨N, rfl, -, -, hb⟩
      go_wp2_with fail
      go_ret
      exact ⟨by rw [HR.out]; rfl, hb⟩
    · have hn := atoi_rest q1 hn
      have HR : Hid (numI t = -1) := hide (by unfold numI; rw [hn]; first | done | rfl)
      obtain ⟨ev, h1, h2⟩ := hL.syn
      have hc := Tryd.strconv_Atoi_syntax ⟨t.toArray⟩ (by show t.toArray.size ≤ _; simp; omega) (by rw [show (⟨t.toArray⟩ : ByteArray).data.toList = t from by simp]; exact hn) ev w h1 h2
      go_enter Tryd.func28, Tryd.ntmps28
      go_wp2_with fail
      refine hc.mono ?_
      rintro e w1 ⟨N, rfl, -, -, hb⟩
      go_wp2_with fail
      go_ret
      exact ⟨by rw [HR.out]; rfl, hb⟩

theorem cut_len (t : List UInt8) (c : UInt8) : (Lib.cut t [c]).1.length ≤ t.length ∧ (Lib.cut t [c]).2.1.length ≤ t.length := by
  rcases byte_parts (c := c) t with h | ⟨a, b, h, rfl⟩
  · rw [cut_none h]; exact ⟨Nat.le_refl _, Nat.zero_le _⟩
  · rw [cut_app h]; simp; omega
theorem splitC_len (c : UInt8) : ∀ (n : Nat) (t : List UInt8), t.length ≤ n → (splitC c t).length ≤ t.length + 1 ∧ ∀ q ∈ splitC c t, q.length ≤ t.length := by
  intro n
  induction n with
  | zero =>
    intro t h
    obtain rfl : t = [] := List.length_eq_zero_iff.1 (by omega)
    exact ⟨by simp [splitC], fun q hq => by simp [splitC] at hq; rw [hq]; exact Nat.le_refl _⟩
  | succ n ih =>
    intro t h
    rcases byte_parts (c := c) t with h1 | ⟨a, b, h1, rfl⟩
    · rw [splitC_none h1]
      exact ⟨by simp, fun q hq => Nat.le_of_eq (congrArg List.length (List.mem_singleton.1 hq))⟩
    · rw [splitC_app h1]
      rw [List.length_append, List.length_cons] at h
      obtain ⟨i1, i2⟩ := ih b (by omega)
      refine ⟨by rw [List.length_cons, List.length_append, List.length_cons]; omega, fun q hq => ?_⟩
      rw [List.length_append, List.length_cons]
      rcases List.mem_cons.1 hq with rfl | hq
      · omega
      · have := i2 q hq; omega

/-- strings.Split at one byte. -/
theorem splitI_any (t : List UInt8) (c : UInt8) (w : World) (ht : t.length ≤ 1048576) (hL : LibAt w) :
    Calls Tryd.prog 48 #[.string ⟨t.toArray⟩, .string ⟨#[c]⟩] w fun e w' => e = .returned (.slice (some ⟨w.heap.size, 0, none⟩) (splitC c t).length (splitC c t).length) ∧ w'.rowIs w.heap.size 9 (splitC c t).length (fun j => .string ⟨((splitC c t).getD j []).toArray⟩) ∧ Below w.heap.size w w' := by
  obtain ⟨m, hm⟩ := hL.max
  have hc := Tryd.strings_Split ⟨t.toArray⟩ ⟨#[c]⟩ m w (by show t.toArray.size < _; simp; omega) hm (by show 1 ≤ (#[c] : Array UInt8).size; simp)
  have hsp : (Lib.splitB ⟨#[c]⟩ 0 (Lib.countB ⟨t.toArray⟩ ⟨#[c]⟩) ⟨t.toArray⟩).map (·.data.toList) = splitC c t := by
    rw [Lib.splitB_data]
    exact split_one t.length t (Nat.le_refl _)
  have hln : Lib.countB ⟨t.toArray⟩ ⟨#[c]⟩ + 1 = (splitC c t).length := by
    rw [← hsp, List.length_map]
    exact (Lib.splitB_all ⟨#[c]⟩ (by show 1 ≤ (#[c] : Array UInt8).size; simp) 0 _ ⟨t.toArray⟩ rfl).symm
  refine hc.mono ?_
  rintro e w' ⟨rfl, rfl⟩
  rw [hln]
  refine ⟨rfl, ⟨_, Deep.blk_alloc_new _ _, ?_, fun i hi => ?_⟩, (Below.refl _ _).alloc (Nat.le_refl _) _⟩
  · simp only [List.size_toArray, List.length_map]
    rw [← hsp, List.length_map]
  · have hi' : i < (Lib.splitB ⟨#[c]⟩ 0 (Lib.countB ⟨t.toArray⟩ ⟨#[c]⟩) ⟨t.toArray⟩).length := by rw [← hsp, List.length_map] at hi; exact hi
    have e1 : (splitC c t).getD i [] = (Lib.splitB ⟨#[c]⟩ 0 (Lib.countB ⟨t.toArray⟩ ⟨#[c]⟩) ⟨t.toArray⟩)[i].data.toList := by
      rw [← hsp, List.getD_eq_getElem?_getD, List.getElem?_map, List.getElem?_eq_getElem hi']
      rfl
    show _ = some (Value.string ⟨((splitC c t).getD i []).toArray⟩)
    rw [e1, List.getElem?_toArray, List.getElem?_map, List.getElem?_eq_getElem hi']
    rfl

set_option maxRecDepth 100000 in
set_option maxHeartbeats 4000000 in
theorem readParts_any (t : List UInt8) (w : World) (ht : t.length ≤ 1048576) (hL : LibAt w) :
    Calls Tryd.prog 29 #[.string ⟨t.toArray⟩] w fun e w' => ∃ v, e = .returned v ∧ PartSl w' w.heap.size v (partsI2 t) ∧ Below w.heap.size w w' := by
  by_cases h0 : t = []
  · subst h0
    go_enter Tryd.func29, Tryd.ntmps29
    go_wp2_with fail
    exact bodyPost_ret (v := .slice none 0 0) (by simp [results, Tryd.results29, go_sem]) rfl ⟨_, rfl, World.ownsRow_nil _ _ _ _, Below.refl _ _⟩
  · have hne : t.isEmpty = false := by
      cases t with
      | nil => exact absurd rfl h0
      | cons a r => rfl
    have HR : Hid (partsI2 t = (splitC 44 t).map partI) := hide (by unfold partsI2; rw [if_neg h0])
    have HSP := hide (splitI_any t 44 w ht hL)
    obtain ⟨hqn, hql⟩ := splitC_len 44 t.length t (Nat.le_refl _)
    have HQL := hide hql
    obtain ⟨qs, hqs⟩ : ∃ qs, splitC 44 t = qs := ⟨_, rfl⟩
    rw [hqs] at HR HSP hqn HQL
    clear hqs h0 hql
    go_enter Tryd.func29, Tryd.ntmps29
    go_wp2_with fail
    refine HSP.out.mono ?_
    rintro e w1 ⟨rfl, hrow, hB1⟩
    have HL1 := hide (hL.below hB1)
    have hlr := World.rowIs.lt hrow
    have HW := hide hrow
    have HB1 := hide hB1
    have HP0 : Hid (PartSl w1 w1.heap.size (.slice none 0 0) ((qs.take 0).map partI)) := hide (World.ownsRow_nil _ _ _ _)
    clear hrow hB1
    go_wp2_with fail
    go_loopw [3, 14] (fun vv iv wr => ∃ (k : Nat), k ≤ qs.length ∧ iv = .int .i64 k ∧ Hid (PartSl wr w1.heap.size vv ((qs.take k).map partI)) ∧ Hid (Below w1.heap.size w1 wr)) (fun _ iv _ => qs.length - (intOf iv).toNat)
    case atStart => exact ⟨0, Nat.zero_le _, rfl, HP0, hide (Below.refl _ _)⟩
    case round =>
      clear HP0
      obtain ⟨k, hk, rfl, HP, HB⟩ := hrel
      by_cases hlt : k < qs.length
      · have hq := World.rowIs.cell (World.rowIs.of_block HW.out (HB.out.block _ hlr)) hlt
        have HQ : Hid (qs[k]? = some (qs.getD k [])) := hide (by rw [List.getD_eq_getElem?_getD, List.getElem?_eq_getElem hlt]; rfl)
        have hql := HQL.out _ (List.mem_of_getElem? HQ.out)
        have HT : Hid ((qs.take (k + 1)).map partI = (qs.take k).map partI ++ [partI (qs.getD k [])]) := hide (by
          rw [List.take_succ_eq_append_getElem hlt, List.map_append]
          congr 2
          rw [List.getD_eq_getElem?_getD, List.getElem?_eq_getElem hlt]
          rfl)
        have HTL : Hid (((qs.take k).map partI).length = k) := hide (by rw [List.length_map, List.length_take]; omega)
        generalize qs.getD k [] = q at hq HQ hql HT
        have hz : (0 : Int) ≤ k := by omega
        have hz2 : (k : Int) < qs.length := by omega
        obtain ⟨l1, l2⟩ := cut_len q 42
        have hLr := HL1.out.below HB.out
        have HC := hide (cutI_any q 42 wr (by omega) hLr)
        have HPI : Hid (partI q = ⟨numI (Lib.cut q [42]).1, numI (Lib.cut q [42]).2.1⟩) := hide rfl
        obtain ⟨ab, hab⟩ : ∃ ab, Lib.cut q [42] = ab := ⟨_, rfl⟩
        rw [hab] at HC HPI l1 l2
        obtain ⟨a, b, bb⟩ := ab
        have l1' : a.length ≤ q.length := l1
        have l2' : b.length ≤ q.length := l2
        have HLr := hide hLr
        clear hab l1 l2 hLr
        go_wp2_with fail
        refine HC.out.mono ?_
        rintro e w2 ⟨⟨bo, rfl⟩, hB2⟩
        have HL2 := hide (HLr.out.below hB2)
        go_wp2_with fail
        refine (readNumber_any a w2 (by omega) HL2.out).mono ?_
        rintro e w3 ⟨rfl, hB3⟩
        have HL3 := hide (HL2.out.below hB3)
        go_wp2_with fail
        refine (readNumber_any b w3 (by omega) HL3.out).mono ?_
        rintro e w4 ⟨rfl, hB4⟩
        have hb4 := HB.out.trans ((next (next hB2 hB3) hB4).mono HB.out.size)
        have hP4 : PartSl w4 w1.heap.size u3 ((qs.take k).map partI) := ownsRow_below HP.out (next (next hB2 hB3) hB4)
        obtain ⟨x, hx⟩ : ∃ x, numI a = x := ⟨_, rfl⟩
        obtain ⟨y, hy⟩ : ∃ y, numI b = y := ⟨_, rfl⟩
        have HPX : Hid (partI q = ⟨x, y⟩) := hide (by rw [HPI.out, ← hx, ← hy])
        rw [hx, hy]
        have HPA := hide (World.ownsRow.alloc hP4 (.cells #[.int .i64 x, .int .i64 y] 48))
        have HBA := hide (hb4.alloc hb4.size (.cells #[.int .i64 x, .int .i64 y] 48))
        have HLT := hide (World.ownsRow.lt hP4)
        have hll : ((qs.take k).map partI).length ≤ 1048576 := by rw [HTL.out]; omega
        have hsz4 := hb4.size
        clear hB2 hB3 hB4 hx hy hP4 hb4
        go_wp2_with (at_builtin; refine wpList_push_part rfl _ _ rfl w1.heap.size u3 ((qs.take k).map partI) rfl HPA.out w4.heap.size ⟨x, y⟩ rfl (heap_alloc_new w4 _) hll (by simp; omega) ?_; intro g5 cap w5 hown hgrow)
        have hb5 : Below w1.heap.size w1 w5 := HBA.out.grown hgrow (by simp; omega) (fun k hk => (HLT.out k hk).1)
        clear hgrow
        have hown5 : PartSl w5 w1.heap.size (.slice (some ⟨g5, 0, none⟩) (k + 1) cap) ((qs.take (k + 1)).map partI) := by
          have h := hown
          rw [HTL.out] at h
          rw [HT.out, HPX.out]
          exact h
        clear hown
        go_wp2_with fail
        go_roundw
        case rel => exact ⟨k + 1, hlt, by go_num, hide hown5, hide hb5⟩
        case measure => simp [intOf]; omega
      · have hP9 : PartSl wr w.heap.size u3 (partsI2 t) := by
          have := World.ownsRow.mono HP.out HB1.out.size
          rw [List.take_of_length_le (by omega)] at this
          rw [HR.out]
          exact this
        have hb9 := HB1.out.trans (HB.out.mono HB1.out.size)
        go_wp2_with fail
        exact bodyPost_ret (v := u3) (by simp [results, Tryd.results29, go_sem]) rfl ⟨_, rfl, hP9, hb9⟩

/-- What reading a text answers. -/
def readRes (s : List UInt8) : Item × Bool := match readI s with | some x => (x, true) | none => (⟨0, [], 0⟩, false)
def ReadPost (s : List UInt8) (w : World) (e : Ending) (w' : World) : Prop :=
  ∃ v, e = .returned (.tuple #[.agg #[.int .i64 (readRes s).1.yield, v, .int .i64 (readRes s).1.marks], .bool (readRes s).2]) ∧ PartSl w' w.heap.size v (readRes s).1.parts ∧ Below w.heap.size w w'
theorem readRes_yes {s : List UInt8} (h : s ≠ [] ∧ itemTextL (itemI s) = s) : readRes s = (itemI s, true) := by
  unfold readRes readI
  rw [if_pos h]
theorem readRes_no {s : List UInt8} (h : ¬ (s ≠ [] ∧ itemTextL (itemI s) = s)) : readRes s = (⟨0, [], 0⟩, false) := by
  unfold readRes readI
  rw [if_neg h]
theorem put3I {W : World} {X : Nat} {t : TypeId} {a b c u v x : Value} (h : W.heap[X]? = some (.cells #[a, b, c] t (0, 0))) :
    (((W.setCell ⟨X, 0, none⟩ u).setCell ⟨X, 1, none⟩ v).setCell ⟨X, 2, none⟩ x).cell? ⟨X, 0, none⟩ = some u ∧ (((W.setCell ⟨X, 0, none⟩ u).setCell ⟨X, 1, none⟩ v).setCell ⟨X, 2, none⟩ x).cell? ⟨X, 1, none⟩ = some v ∧
      (((W.setCell ⟨X, 0, none⟩ u).setCell ⟨X, 1, none⟩ v).setCell ⟨X, 2, none⟩ x).cell? ⟨X, 2, none⟩ = some x := by
  have h3 := heap_setCell_same _ X 2 _ _ x (heap_setCell_same _ X 1 _ _ v (heap_setCell_same _ X 0 _ _ u h))
  exact ⟨by rw [cell_of_row _ _ 0 _ _ _ h3]; rfl, by rw [cell_of_row _ _ 1 _ _ _ h3]; rfl, by rw [cell_of_row _ _ 2 _ _ _ h3]; rfl⟩
theorem cells3I {W : World} {X : Nat} {t : TypeId} {a b c : Value} (h : W.heap[X]? = some (.cells #[a, b, c] t (0, 0))) :
    W.cell? ⟨X, 0, none⟩ = some a ∧ W.cell? ⟨X, 1, none⟩ = some b ∧ W.cell? ⟨X, 2, none⟩ = some c :=
  ⟨by rw [cell_of_row _ _ 0 _ _ _ h]; rfl, by rw [cell_of_row _ _ 1 _ _ _ h]; rfl, by rw [cell_of_row _ _ 2 _ _ _ h]; rfl⟩
theorem heap_ltI {w : World} {X : Nat} {o : Obj} (h : w.heap[X]? = some o) : X < w.heap.size := (Array.getElem?_eq_some_iff.1 h).1
theorem cut_less (t : List UInt8) (c : UInt8) : (Lib.cut t [c]).2.1.length ≤ t.length - 1 := by
  rcases byte_parts (c := c) t with h | ⟨a, b, h, rfl⟩
  · rw [cut_none h]; exact Nat.zero_le _
  · rw [cut_app h]; simp
theorem PartSl.setBelow {w : World} {lo : Nat} {v : Value} {ps : List Part} {X : Nat} (h : PartSl w lo v ps) (hX : X < lo) (i : Nat) (u : Value) : PartSl (w.setCell ⟨X, i, none⟩ u) lo v ps := by
  obtain ⟨h1, h2⟩ := h
  refine ⟨h1, ?_⟩
  rcases h2 with hn | ⟨g, cap, cur, rfl, hb0, hg, r⟩
  · exact .inl hn
  · exact .inr ⟨g, cap, cur, rfl, hb0, (heap_setCell_other _ ⟨X, i, none⟩ _ _ (by simp; omega)).trans hg, r⟩

set_option maxRecDepth 100000 in
set_option maxHeartbeats 4000000 in
theorem implReadItem_any (s : List UInt8) (w : World) (hs : s.length ≤ 1048576) (hL : LibAt w) : Calls Tryd.prog 11 #[.string ⟨s.toArray⟩] w (ReadPost s w) := by
  have hba : Below w.heap.size w (w.alloc (.cells #[.int .i64 0, .slice none 0 0, .int .i64 0] 25)) := by go_grown
  have hbx := heap_alloc_new w (.cells #[.int .i64 0, .slice none 0 0, .int .i64 0] 25)
  go_enter Tryd.func11, Tryd.ntmps11
  go_upto_region 1 with fail
  obtain ⟨W, hW⟩ : ∃ W, w.alloc (.cells #[.int .i64 0, .slice none 0 0, .int .i64 0] 25) = W := ⟨_, rfl⟩
  rw [hW] at hba hbx ⊢
  clear hW
  have HLW := hide (hL.below hba)
  obtain ⟨ab, hab⟩ : ∃ ab, Lib.cut s [61] = ab := ⟨_, rfl⟩
  obtain ⟨cd, hcd⟩ : ∃ cd, Lib.cut ab.2.1 [33] = cd := ⟨_, rfl⟩
  have HI : Hid (itemI s = ⟨numI ab.1, partsI2 cd.1, numI cd.2.1⟩) := hide (by unfold itemI; rw [hab, hcd])
  have hC1 := cutI_any s 61 W hs HLW.out
  have la := (cut_len s 61).1
  have lb := cut_less s 61
  rw [hab] at hC1 la lb
  have HC2 := hide (fun W' (h : LibAt W') => cutI_any ab.2.1 33 W' (by omega) h)
  have lc := (cut_len ab.2.1 33).1
  have ld := (cut_len ab.2.1 33).2
  rw [hcd] at HC2 lc ld
  obtain ⟨a, b, ab3⟩ := ab
  obtain ⟨c, d, cd3⟩ := cd
  have la' : a.length ≤ s.length := la
  have lb' : b.length ≤ s.length - 1 := lb
  have lc' : c.length ≤ b.length := lc
  have ld' : d.length ≤ b.length := ld
  have HC1 := hide hC1
  clear hab hcd la lb lc ld hC1
  go_wp2_with fail
  refine HC1.out.mono ?_
  rintro e w1 ⟨⟨bo, rfl⟩, hB1⟩
  have HL1 := hide (HLW.out.below hB1)
  go_wp2_with fail
  refine (HC2.out w1 HL1.out).mono ?_
  rintro e w2 ⟨⟨bo2, rfl⟩, hB2⟩
  have HL2 := hide (HL1.out.below hB2)
  go_wp2_with fail
  refine (readNumber_any a w2 (by omega) HL2.out).mono ?_
  rintro e w3 ⟨rfl, hB3⟩
  have HL3 := hide (HL2.out.below hB3)
  go_wp2_with fail
  refine (readParts_any c w3 (by omega) HL3.out).mono ?_
  rintro e w4 ⟨v, rfl, hP4, hB4⟩
  have HL4 := hide (HL3.out.below hB4)
  go_wp2_with fail
  refine (readNumber_any d w4 (by omega) HL4.out).mono ?_
  rintro e w5 ⟨rfl, hB5⟩
  have hbW := next (next (next (next hB1 hB2) hB3) hB4) hB5
  have hP5 : PartSl w5 w3.heap.size v (partsI2 c) := ownsRow_below hP4 hB5
  have hb5 := next hba hbW
  have hx5 := (hbW.block w.heap.size (heap_ltI hbx)).trans hbx
  have h35 : w.heap.size < w3.heap.size := Nat.lt_of_lt_of_le (heap_ltI hbx) (next (next hB1 hB2) hB3).size
  have hpl : (partsI2 c).length ≤ 1048576 := by
    unfold partsI2
    split
    · simp
    · rw [List.length_map]
      have := (splitC_len 44 c.length c (Nat.le_refl _)).1
      omega
  obtain ⟨y, hy⟩ : ∃ y, numI a = y := ⟨_, rfl⟩
  obtain ⟨mk, hmk⟩ : ∃ mk, numI d = mk := ⟨_, rfl⟩
  obtain ⟨ps, hps⟩ : ∃ ps, partsI2 c = ps := ⟨_, rfl⟩
  have HI2 : Hid (itemI s = ⟨y, ps, mk⟩) := hide (by rw [HI.out, ← hy, ← hmk, ← hps])
  rw [hy, hmk]
  rw [hps] at hP5 hpl
  obtain ⟨PA, cp, rfl, -⟩ := hP5.form
  have hb6 := hb5.alloc hb5.size (.cells #[.int .i64 y, .slice PA ps.length cp, .int .i64 mk] 25)
  have hx6 := (heap_alloc_old w5 (.cells #[.int .i64 y, .slice PA ps.length cp, .int .i64 mk] 25) (heap_ltI hx5)).trans hx5
  have hy6 := heap_alloc_new w5 (.cells #[.int .i64 y, .slice PA ps.length cp, .int .i64 mk] 25)
  have hP6 : PartSl (w5.alloc (.cells #[.int .i64 y, .slice PA ps.length cp, .int .i64 mk] 25)) w3.heap.size (.slice PA ps.length cp) ps := World.ownsRow.alloc hP5 _
  clear hB1 hB2 hB3 hB4 hB5 hbW hP4 hP5 hb5 hx5 hy hmk hps HI HC1 HC2 HL1 HL2 HL3 HL4 HLW
  go_upto_region 4 with fail
  obtain ⟨w6, hw6⟩ : ∃ w6, w5.alloc (.cells #[.int .i64 y, .slice PA ps.length cp, .int .i64 mk] 25) = w6 := ⟨_, rfl⟩
  rw [hw6] at hb6 hx6 hy6 hP6 ⊢
  clear hw6
  obtain ⟨c0, c1, c2⟩ := cells3I hy6
  obtain ⟨d0, d1, d2⟩ := cells3I hx6
  have g0 := frozen_of_row w6 w.heap.size 0 _ _ hx6
  have g1 := frozen_of_row w6 w.heap.size 1 _ _ hx6
  have g2 := frozen_of_row w6 w.heap.size 2 _ _ hx6
  cases he : s.isEmpty with
  | true =>
    have hs0 : s = [] := List.isEmpty_iff.1 he
    have HR : Hid (readRes s = (⟨0, [], 0⟩, false)) := hide (readRes_no (fun h => h.1 hs0))
    obtain ⟨f0, f1, f2⟩ := put3I (u := .int .i64 0) (v := .slice none 0 0) (x := .int .i64 0) hx6
    have hbe := ((hb6.setCell (p := ⟨w.heap.size, 0, none⟩) (Nat.le_refl _) (.int .i64 0)).setCell (p := ⟨w.heap.size, 1, none⟩) (Nat.le_refl _) (.slice none 0 0)).setCell (p := ⟨w.heap.size, 2, none⟩) (Nat.le_refl _) (.int .i64 0)
    have HE := hide (And.intro hbe (And.intro f0 (And.intro f1 f2)))
    clear hbe f0 f1 f2 hs0
    go_wp2_with fail
    obtain ⟨hbe, f0, f1, f2⟩ := HE.out
    exact bodyPost_ret (v := .tuple #[.agg #[.int .i64 0, .slice none 0 0, .int .i64 0], .bool false]) (by simp [results, Tryd.results11, go_sem, f0, f1, f2]) rfl ⟨.slice none 0 0, by rw [HR.out], by rw [HR.out]; exact World.ownsRow_nil _ _ _ _, hbe⟩
  | false =>
    obtain ⟨-, hPf⟩ : True ∧ PartsAt w6 PA ps := ⟨trivial, by obtain ⟨A9, c9, e9, h9⟩ := hP6.form; injection e9 with e1 e2 e3; subst e1; exact h9⟩
    have HT := hide (implItemText_any PA cp ⟨y, ps, mk⟩ w6 hPf hpl)
    clear hPf
    go_wp2_with fail
    refine HT.out.mono ?_
    rintro e w7 ⟨rfl, hB7⟩
    obtain ⟨T, hT⟩ : ∃ T, itemTextL ⟨y, ps, mk⟩ = T := ⟨_, rfl⟩
    rw [hT]
    have hb7 := next hb6 hB7
    have hx7 := (hB7.block w.heap.size (heap_ltI hx6)).trans hx6
    have hy7 := (hB7.block w5.heap.size (heap_ltI hy6)).trans hy6
    have hP7 : PartSl w7 w3.heap.size (.slice PA ps.length cp) ps := ownsRow_below hP6 hB7
    have hs0 : s ≠ [] := fun e => by rw [e] at he; cases he
    clear c0 c1 c2 d0 d1 d2 g0 g1 g2 hx6 hy6 hP6 hB7 hb6
    obtain ⟨c0, c1, c2⟩ := cells3I hy7
    obtain ⟨d0, d1, d2⟩ := cells3I hx7
    have g0 := frozen_of_row w7 w.heap.size 0 _ _ hx7
    have g1 := frozen_of_row w7 w.heap.size 1 _ _ hx7
    have g2 := frozen_of_row w7 w.heap.size 2 _ _ hx7
    by_cases hTs : T = s
    · subst hTs
      have HR : Hid (readRes T = (⟨y, ps, mk⟩, true)) := hide (by rw [readRes_yes ⟨hs0, by rw [HI2.out, hT]⟩, HI2.out])
      obtain ⟨f0, f1, f2⟩ := put3I (u := .int .i64 y) (v := .slice PA ps.length cp) (x := .int .i64 mk) hx7
      have hbe := ((hb7.setCell (p := ⟨w.heap.size, 0, none⟩) (Nat.le_refl _) (.int .i64 y)).setCell (p := ⟨w.heap.size, 1, none⟩) (Nat.le_refl _) (.slice PA ps.length cp)).setCell (p := ⟨w.heap.size, 2, none⟩) (Nat.le_refl _) (.int .i64 mk)
      have hPe : PartSl (((w7.setCell ⟨w.heap.size, 0, none⟩ (.int .i64 y)).setCell ⟨w.heap.size, 1, none⟩ (.slice PA ps.length cp)).setCell ⟨w.heap.size, 2, none⟩ (.int .i64 mk)) w.heap.size (.slice PA ps.length cp) ps :=
        World.ownsRow.mono (((hP7.setBelow h35 0 _).setBelow h35 1 _).setBelow h35 2 _) (Nat.le_of_lt h35)
      have HE := hide (And.intro hbe (And.intro f0 (And.intro f1 (And.intro f2 hPe))))
      clear hbe f0 f1 f2 hPe hT hs0 hP7
      go_wp2_with fail
      obtain ⟨hbe, f0, f1, f2, hPe⟩ := HE.out
      exact bodyPost_ret (v := .tuple #[.agg #[.int .i64 y, .slice PA ps.length cp, .int .i64 mk], .bool true]) (by simp [results, Tryd.results11, go_sem, f0, f1, f2]) rfl ⟨.slice PA ps.length cp, by rw [HR.out], by rw [HR.out]; exact hPe, hbe⟩
    · have HR : Hid (readRes s = (⟨0, [], 0⟩, false)) := hide (readRes_no (fun h => hTs (by have := h.2; rw [HI2.out, hT] at this; exact this)))
      obtain ⟨f0, f1, f2⟩ := put3I (u := .int .i64 0) (v := .slice none 0 0) (x := .int .i64 0) hx7
      have hbe := ((hb7.setCell (p := ⟨w.heap.size, 0, none⟩) (Nat.le_refl _) (.int .i64 0)).setCell (p := ⟨w.heap.size, 1, none⟩) (Nat.le_refl _) (.slice none 0 0)).setCell (p := ⟨w.heap.size, 2, none⟩) (Nat.le_refl _) (.int .i64 0)
      have HE := hide (And.intro hbe (And.intro f0 (And.intro f1 f2)))
      have hne : (T != s) = true := by simp [hTs]
      have hne2 : (T == s) = false := by simp [hTs]
      clear hbe f0 f1 f2 hs0 hT hP7
      go_wp2_with fail
      obtain ⟨hbe, f0, f1, f2⟩ := HE.out
      exact bodyPost_ret (v := .tuple #[.agg #[.int .i64 0, .slice none 0 0, .int .i64 0], .bool false]) (by simp [results, Tryd.results11, go_sem, f0, f1, f2]) rfl ⟨.slice none 0 0, by rw [HR.out], by rw [HR.out]; exact World.ownsRow_nil _ _ _ _, hbe⟩
end Go.Proofs.YtaelapimchmbcaaDoor
