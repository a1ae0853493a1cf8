/- Marking and asking the tables that a call owns.
   Conditions: the bounds in each statement. -/
import Derived.Test.YtecmghoklleheabUseG
namespace Go.Proofs.Ytecmghoklleheab
open Go.RowKit

def markGo : Int → List (List Int) → List (List Int)
  | _, [] => []
  | q, x :: r => seqK q x.length :: markGo (q + x.length) r
def markEnd : Int → List (List Int) → Int
  | q, [] => q
  | q, x :: r => markEnd (q + x.length) r

theorem markGo_len : ∀ (q : Int) (rows : List (List Int)), (markGo q rows).length = rows.length
  | _, [] => rfl
  | q, x :: r => by simp [markGo, markGo_len]

/-- Row i of a table that the call owns, and what becomes of the table when the row's numbers turn. -/
theorem TabSl.at_ {w : World} {lo g n cap : Nat} {rows : List (List Int)} (h : TabSl w lo (.slice (some ⟨g, 0, none⟩) n cap) rows) {i : Nat} {x : List Int} (hx : rows[i]? = some x) :
    ∃ A' c', w.cell? ⟨g, i, none⟩ = some (.slice A' x.length c') ∧ IntSl w lo (.slice A' x.length c') x ∧ g < w.heap.size ∧
      ∀ w' y, y.length = x.length → IntSl w' lo (.slice A' x.length c') y → w.grownBy w' (Value.slice A' x.length c').ownBlock → TabSl w' lo (.slice (some ⟨g, 0, none⟩) n cap) (rows.set i y) := by
  obtain ⟨A, c, e, _⟩ := h.form
  injection e with e1 e2 e3
  subst e2
  obtain ⟨vs, h1, h2, h3⟩ := h
  have hi : i < rows.length := (List.getElem?_eq_some_iff.1 hx).1
  have hlen : vs.length = rows.length := by have := h1.1; omega
  obtain ⟨u, hu, hS⟩ := h2 i x hx
  obtain ⟨A', c', rfl, _, _⟩ := hS.form
  refine ⟨A', c', ?_, hS, (h1.lt g rfl).2, fun w' y hy hS' hg => ⟨vs, ?_, fun j z hz => ?_, h3⟩⟩
  · rw [World.ownsRow.cellAt h1 i (by omega)]
    exact hu
  · rw [List.length_set]
    refine World.ownsRow.kept h1 hg (.inr (fun e => ?_))
    have e : some g = (Value.slice A' x.length c').ownBlock := e
    exact ownsRow_apart hS h1 (by decide) e.symm rfl
  · by_cases e : j = i
    · subst e
      rw [List.getElem?_set_self hi] at hz
      injection hz with hz
      subst hz
      exact ⟨_, hu, hS'⟩
    · rw [List.getElem?_set_ne (fun h => e h.symm)] at hz
      obtain ⟨v, hv, hT⟩ := h2 j z hz
      refine ⟨v, hv, World.ownsRow.kept hT hg ?_⟩
      cases e1 : v.ownBlock with
      | none => exact .inl rfl
      | some k =>
        refine .inr (fun e2 => ?_)
        rcases Nat.lt_or_gt_of_ne e with hlt | hgt
        · exact h3 j i v _ k hlt hv hu e1 e2.symm
        · exact h3 i j _ v k hgt hu hv e2.symm e1

theorem TabSl.empty {w : World} {lo : Nat} {A : Option Addr} {c : Nat} {rows : List (List Int)} (h : TabSl w lo (.slice A 0 c) rows) : rows = [] := by
  obtain ⟨A', c', e, _⟩ := h.form
  injection e with e1 e2 e3
  exact List.eq_nil_of_length_eq_zero e2.symm

theorem TabSl.rowlo {w : World} {lo g n cap : Nat} {rows : List (List Int)} (h : TabSl w lo (.slice (some ⟨g, 0, none⟩) n cap) rows) : lo ≤ g := by
  obtain ⟨vs, h1, _⟩ := h
  exact (h1.lt g rfl).1

/-- A write below a table's blocks leaves it. -/
theorem TabSl.grown {w w' : World} {lo k : Nat} {v : Value} {rows : List (List Int)} (h : TabSl w lo v rows) (hg : w.grownBy w' (some k)) (hk : k < lo) : TabSl w' lo v rows := by
  obtain ⟨vs, h1, h2, h3⟩ := h
  have far : ∀ {e : TypeId} {size n : Nat} {z : Value} {zs : List Value}, w.ownsRow lo e size z n zs → w'.ownsRow lo e size z n zs := fun {e size n z zs} hz => World.ownsRow.kept hz hg (by
    cases e1 : z.ownBlock with
    | none => exact .inl rfl
    | some j => exact .inr (fun e2 => by injection e2 with e2; have := (hz.lt j e1).1; omega))
  refine ⟨vs, far h1, fun i x hx => ?_, h3⟩
  obtain ⟨u, hu, hS⟩ := h2 i x hx
  exact ⟨u, hu, far hS⟩

set_option maxHeartbeats 1000000 in
theorem markIntSS_any (lo : Nat) (A : Option Addr) (c : Nat) (rows : List (List Int)) (k0 : Int) (w : World) (h : TabSl w lo (.slice A rows.length c) rows) (hn : rows.length ≤ 1048576) (hp : ∀ x ∈ rows, x.length ≤ 1048576) (hk0 : 0 ≤ k0) (hk1 : k0 ≤ 1000000) :
    Calls Try.prog 46 #[.slice A rows.length c, .int .i64 k0] w fun e w' => e = .returned (.int .i64 (markEnd k0 rows)) ∧ TabSl w' lo (.slice A rows.length c) (markGo k0 rows) ∧ Below lo w w' := by
  have HP := hide hp
  clear hp
  rcases Nat.eq_zero_or_pos rows.length with h0 | h0
  · have hnil : rows = [] := List.eq_nil_of_length_eq_zero h0
    subst hnil
    have h' : TabSl w lo (.slice A 0 c) (markGo k0 []) := h
    simp only [List.length_nil] at *
    go_enter Try.func46, Try.ntmps46
    go_wp2_with fail
    go_loopw [1, 5] (fun kv i wr => kv = .int .i64 k0 ∧ i = .int .i64 0 ∧ wr = w) (fun _ _ _ => 0)
    case atStart => exact ⟨rfl, rfl, rfl⟩
    case round =>
      obtain ⟨rfl, rfl, rfl⟩ := hrel
      go_wp2_with fail
      go_ret
      exact ⟨rfl, h', Below.refl _ _⟩
  · obtain ⟨g, rfl⟩ : ∃ g, A = some ⟨g, 0, none⟩ := by
      obtain ⟨vs, h1, _⟩ := h
      exact ownsRow_head h1 h0
    have H0 := hide h
    clear h
    go_enter Try.func46, Try.ntmps46
    go_wp2_with fail
    go_loopw [1, 5] (fun kv i wr => ∃ (k : Nat) (q : Int) (ys : List (List Int)), k ≤ rows.length ∧ kv = .int .i64 q ∧ i = .int .i64 k ∧ 0 ≤ q ∧ q ≤ 1000000 + 1048576 * k ∧ Hid (markGo k0 rows = ys.take k ++ markGo q (rows.drop k)) ∧ Hid (markEnd k0 rows = markEnd q (rows.drop k)) ∧ Hid (ys.length = rows.length ∧ ys.drop k = rows.drop k) ∧ TabSl wr lo (.slice (some ⟨g, 0, none⟩) rows.length c) ys ∧ Below lo w wr) (fun _ i _ => rows.length - (intOf i).toNat)
    case atStart => exact ⟨0, k0, rows, by omega, rfl, rfl, by omega, by omega, hide (by simp), hide (by simp), hide ⟨rfl, rfl⟩, H0.out, Below.refl _ _⟩
    case round =>
      clear H0
      obtain ⟨k, q, ys, hk, rfl, rfl, hq0, hq1, HG, HE, HY, hO, hb⟩ := hrel
      by_cases hlt : k < rows.length
      · have hz : (0 : Int) ≤ k := by omega
        have hz2 : (k : Int) < rows.length := by omega
        obtain ⟨x, hX⟩ : ∃ x, rows[k]? = some x := ⟨_, List.getElem?_eq_getElem hlt⟩
        have hxl : x.length ≤ 1048576 := HP.out x (List.mem_of_getElem? hX)
        have HD : Hid (rows.drop k = x :: rows.drop (k + 1)) := hide (drop_at hX)
        have hyk : ys[k]? = some x := by
          have : (ys.drop k)[0]? = some x := by rw [HY.out.2, HD.out]; rfl
          simpa using this
        obtain ⟨A', c', hc1, hS, hgl, hset⟩ := hO.at_ hyk
        have HSET := hide hset
        have HS := hide hS
        have HLO := hide hO.rowlo
        have hlos := fun j hj => (World.ownsRow.lt hS j hj)
        have HLS := hide hlos
        have HYK := hide hyk
        clear hset hS hO hlos hyk hX
        go_wp2_with fail
        refine (markIntS_any _ _ _ _ _ _ HS.out hxl hq0 (by omega)).mono ?_
        rintro e w1 ⟨rfl, hS1, hg1⟩
        have HT := hide (HSET.out w1 _ (seqK_len _ _) hS1 hg1)
        have hb1 : Below lo w w1 := hb.grown hg1 (by have := HLO.out; omega) (fun j hj => (HLS.out j hj).1)
        have HG1 : Hid (markGo k0 rows = (ys.set k (seqK q x.length)).take (k + 1) ++ markGo (q + x.length) (rows.drop (k + 1))) := hide (by
          rw [HG.out, HD.out, markGo, List.take_add_one, List.getElem?_set_self (by rw [HY.out.1]; exact hlt), List.take_set_of_le (Nat.le_refl k)]
          simp)
        have HE1 : Hid (markEnd k0 rows = markEnd (q + x.length) (rows.drop (k + 1))) := hide (by rw [HE.out, HD.out, markEnd])
        have HY1 : Hid ((ys.set k (seqK q x.length)).length = rows.length ∧ (ys.set k (seqK q x.length)).drop (k + 1) = rows.drop (k + 1)) := hide ⟨by rw [List.length_set]; exact HY.out.1, by
          rw [List.drop_set_of_lt (by omega)]
          have := congrArg (List.drop 1) HY.out.2
          rw [List.drop_drop, List.drop_drop] at this
          exact this⟩
        clear hS1 hg1 HSET HS
        go_wp2_with fail
        go_roundw
        case rel => exact ⟨k + 1, _, _, hlt, rfl, by go_num, by omega, by omega, HG1, HE1, HY1, HT.out, hb1⟩
        case measure => simp [intOf]; omega
      · have HR : Hid (markEnd k0 rows = q) := hide (by rw [HE.out, List.drop_of_length_le (by omega), markEnd])
        have HF : Hid (TabSl wr lo (.slice (some ⟨g, 0, none⟩) rows.length c) (markGo k0 rows)) := hide (by
          rw [HG.out, List.drop_of_length_le (l := rows) (by omega), List.take_of_length_le (by rw [HY.out.1]; omega)]
          simpa [markGo] using hO)
        clear hO
        go_wp2_with fail
        go_ret
        exact ⟨by rw [HR.out]; rfl, HF.out, hb⟩

set_option maxHeartbeats 1000000 in
theorem heldIntSS_any (A : Option Addr) (c : Nat) (rows : List (List Int)) (k0 : Int) (w : World) (h : RowsAt w A (markGo k0 rows)) (hn : rows.length ≤ 1048576) (hp : ∀ x ∈ rows, x.length ≤ 1048576) (hk0 : 0 ≤ k0) (hk1 : k0 ≤ 1000000) :
    Calls Try.prog 47 #[.slice A rows.length c, .int .i64 k0] w fun e w' => e = .returned (.int .i64 (markEnd k0 rows)) ∧ w' = w := by
  have HP := hide hp
  clear hp
  go_enter Try.func47, Try.ntmps47
  go_wp2_with fail
  go_loopw [1, 5] (fun kv i wr => ∃ (k : Nat) (q : Int), k ≤ rows.length ∧ kv = .int .i64 q ∧ i = .int .i64 k ∧ 0 ≤ q ∧ q ≤ 1000000 + 1048576 * k ∧ Hid ((markGo k0 rows).drop k = markGo q (rows.drop k)) ∧ Hid (markEnd k0 rows = markEnd q (rows.drop k)) ∧ wr = w) (fun _ i _ => rows.length - (intOf i).toNat)
  case atStart => exact ⟨0, k0, by omega, rfl, rfl, by omega, by omega, hide (by simp), hide (by simp), rfl⟩
  case round =>
    obtain ⟨k, q, hk, rfl, rfl, hq0, hq1, HG, HE, rfl⟩ := hrel
    by_cases hlt : k < rows.length
    · have hz : (0 : Int) ≤ k := by omega
      have hz2 : (k : Int) < rows.length := by omega
      obtain ⟨x, hX⟩ : ∃ x, rows[k]? = some x := ⟨_, List.getElem?_eq_getElem hlt⟩
      have hxl : x.length ≤ 1048576 := HP.out x (List.mem_of_getElem? hX)
      have HD : Hid (rows.drop k = x :: rows.drop (k + 1)) := hide (drop_at hX)
      have hmk : (markGo k0 rows)[k]? = some (seqK q x.length) := by
        have : ((markGo k0 rows).drop k)[0]? = some (seqK q x.length) := by rw [HG.out, HD.out]; rfl
        simpa using this
      obtain ⟨b, off, A', c', rfl, hbl, hc1, hI⟩ := h k _ hmk
      rw [seqK_len] at hc1
      have HG1 : Hid ((markGo k0 rows).drop (k + 1) = markGo (q + x.length) (rows.drop (k + 1))) := hide (by
        have := congrArg (List.drop 1) HG.out
        rw [List.drop_drop, HD.out, markGo] at this
        exact this)
      have HE1 : Hid (markEnd k0 rows = markEnd (q + x.length) (rows.drop (k + 1))) := hide (by rw [HE.out, HD.out, markEnd])
      have HI := hide hI
      have hnn : ¬ q + (x.length : Int) < 0 := by omega
      clear hmk hX hI
      go_wp2_with fail
      refine (heldIntS_any _ _ _ _ _ HI.out hxl hq0 (by omega)).mono ?_
      rintro e w1 ⟨rfl, hw1⟩
      subst hw1
      go_wp2_with fail
      go_roundw
      case rel => exact ⟨k + 1, _, hlt, rfl, by go_num, by omega, by omega, HG1, HE1, trivial⟩
      case measure => simp [intOf]; omega
    · have HR : Hid (markEnd k0 rows = q) := hide (by rw [HE.out, List.drop_of_length_le (by omega), markEnd])
      go_wp2_with fail
      go_ret
      exact ⟨by rw [HR.out]; rfl, rfl⟩

theorem markEnd_ge : ∀ (rows : List (List Int)) (q : Int), 0 ≤ q → 0 ≤ markEnd q rows
  | [], _, h => h
  | x :: r, q, h => markEnd_ge r _ (by omega)
end Go.Proofs.Ytecmghoklleheab
