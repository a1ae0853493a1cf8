/- BurnList: contracts of the program and of the reference model.
   Conditions: lists have at most 1048576 elements. -/
import Derived.Test.YteloapholoechaaDoorCook2
namespace Go.Proofs.YteloapholoechaaDoor
open Go.RowKit Go.ChangeShapes Go.WideShapes Go.ChangeAt

def burnGo : List Int → List Int → List Int
  | _, [] => []
  | busy, s :: r => ((idxL (minL busy) busy : Nat) : Int) :: burnGo (busy.set (idxL (minL busy) busy) (busy.getD (idxL (minL busy) busy) 0 + s)) r
def burnListL (spans : List Int) (b : Int) : List Int := if burnFit spans b = true then burnGo (tab b.toNat (fun _ => 0)) spans else []

theorem burnGo_len : ∀ (spans busy : List Int), (burnGo busy spans).length = spans.length
  | [], _ => rfl
  | s :: r, busy => by rw [burnGo, List.length_cons, burnGo_len r, List.length_cons]
theorem burnListL_len (spans : List Int) (b : Int) : (burnListL spans b).length ≤ spans.length := by
  unfold burnListL
  split
  · rw [burnGo_len]; exact Nat.le_refl _
  · simp

/-- One round: the first of the least, and the row behind it. -/
structure BusyOk (n : Nat) (k : Nat) (bs : List Int) : Prop where
  len : bs.length = n
  rng : ∀ y ∈ bs, 0 ≤ y ∧ y ≤ 30 * (k : Int)
theorem BusyOk.start (n : Nat) : BusyOk n 0 (tab n (fun _ => 0)) := ⟨tab_len _ _, fun y hy => by
  unfold tab at hy
  obtain ⟨_, _, rfl⟩ := List.mem_map.1 hy
  omega⟩
theorem BusyOk.next {n k q : Nat} {bs : List Int} {v s : Int} (h : BusyOk n k bs) (hv : v ∈ bs) (h0 : 0 ≤ s) (h1 : s ≤ 30) : BusyOk n (k + 1) (bs.set q (v + s)) :=
  ⟨by rw [List.length_set]; exact h.len, fun y hy => by
    have hvr := h.rng v hv
    rcases List.mem_or_eq_of_mem_set hy with hy | rfl
    · have := h.rng y hy
      omega
    · omega⟩

set_option maxRecDepth 100000 in
set_option maxHeartbeats 2000000 in
theorem implBurnList_any (A : Option Addr) (c : Nat) (xs : List Int) (b : Int) (w : World) (hA : IntsAt w A xs) (hl : xs.length ≤ 1048576) :
    Calls Tryd.prog 33 #[.slice A xs.length c, .int .i64 b] w fun e w' => ∃ v, e = .returned v ∧ IntSl w' w.heap.size v (burnListL xs b) ∧ Below w.heap.size w w' := by
  cases hI : burnFit xs b with
  | false =>
    have HI := hide hI
    have H3 : Hid (burnListL xs b = []) := hide (by unfold burnListL; rw [hI]; rfl)
    clear hI
    go_enter Tryd.func33, Tryd.ntmps33
    go_wp2_with fail
    refine (burnFits_any _ _ _ _ _ hA hl).mono ?_
    rintro e w1 ⟨rfl, hB1⟩
    rw [HI.out]
    go_wp2_with fail
    refine bodyPost_ret (results_tmp rfl _ _ _) rfl ⟨.slice none 0 0, rfl, by rw [H3.out]; exact World.ownsRow_nil _ _ _ _, hB1⟩
  | true =>
    have HI := hide hI
    obtain ⟨hsp, n, rfl, hn1, hn3⟩ := burnFit_parts hI
    have h6 := spansOk_len hsp
    have HSP := hide hsp
    have HR : Hid (burnListL xs n = burnGo (tab n (fun _ => 0)) xs) := hide (by unfold burnListL; rw [hI]; simp)
    have hmk := make_ints n (by omega)
    have hmk2 := make_ints xs.length hl
    clear hI hsp
    go_enter Tryd.func33, Tryd.ntmps33
    go_wp2_with fail
    refine (burnFits_any _ _ _ _ _ hA hl).mono ?_
    rintro e w1 ⟨rfl, hB1⟩
    rw [HI.out]
    have hsz1 := hB1.size
    have hZ1 := zeros_tab w1 (lo := w.heap.size) xs.length hsz1 hl
    have HZ1 := hide (World.ownsRow.alloc hZ1 (.cells (madeCells #[.int .i64 0] n) 3))
    have HZ2 := hide (zeros_tab (w1.alloc (.cells (madeCells #[.int .i64 0] xs.length) 3)) (lo := w.heap.size) n (by simp; omega) (by omega))
    clear hZ1
    go_wp2_with fail
    clear hmk hmk2
    go_loopw [20] (fun i wr => ∃ (k : Nat) (on bs : List Int), k ≤ xs.length ∧ i = .int .i64 k ∧ Hid (on.length = xs.length ∧ BusyOk n k bs ∧ burnListL xs n = on.take k ++ burnGo bs (xs.drop k)) ∧ IntSl wr w.heap.size (.slice (some ⟨w1.heap.size, 0, none⟩) xs.length xs.length) on ∧ IntSl wr w.heap.size (.slice (some ⟨w1.heap.size + 1, 0, none⟩) n n) bs ∧ Below w.heap.size w wr) (fun i _ => xs.length - (intOf i).toNat)
    case atStart => exact ⟨0, tab xs.length (fun _ => 0), tab n (fun _ => 0), Nat.zero_le _, rfl, hide ⟨tab_len _ _, BusyOk.start n, by rw [HR.out]; simp⟩, HZ1.out, by simpa using HZ2.out, by go_grown⟩
    case round =>
      clear HZ1 HZ2 hB1 HR
      obtain ⟨k, on, bs, hk, rfl, HF, hS, hS2, hb⟩ := hrel
      have hsz := hb.size
      by_cases hlt : k < xs.length
      · obtain ⟨b1, off1, rfl, hbl1, hc1⟩ := (hA.below hb) k xs[k] (List.getElem?_eq_getElem hlt)
        have HD : Hid (xs.drop k = xs[k] :: xs.drop (k + 1)) := hide (List.drop_eq_getElem_cons hlt)
        have hs := spansOk_at HSP.out (List.getElem?_eq_getElem hlt)
        generalize xs[k] = s at *
        obtain ⟨hs0, hs1⟩ := hs
        obtain ⟨hol, hbo, heq⟩ := HF.out
        have hbl := hbo.len
        have h0b : 0 < bs.length := by omega
        have hmem := minL_mem h0b
        have hix := idxL_spec hmem
        obtain ⟨q, hq⟩ : ∃ q, idxL (minL bs) bs = q := ⟨_, rfl⟩
        rw [hq] at hix
        have hMn := slicesMin_any (some ⟨w1.heap.size + 1, 0, none⟩) n bs wr hS2.ints (by omega) h0b
        have hIx := slicesIndex_any (some ⟨w1.heap.size + 1, 0, none⟩) n bs (minL bs) wr hS2.ints (by omega) (hide hmem)
        rw [hbl] at hMn hIx
        rw [hq] at hIx
        have hqn : q < n := by omega
        have hvq : bs[q]? = some (minL bs) := by
          have e := hix.2.1
          simp only [List.getD_eq_getElem?_getD, List.getElem?_eq_getElem hix.1, Option.getD_some] at e
          rw [List.getElem?_eq_getElem hix.1, e]
        have hrng := hbo.rng _ hmem
        have HF2 : Hid ((on.set k (q : Int)).length = xs.length ∧ BusyOk n (k + 1) (bs.set q (minL bs + s)) ∧ burnListL xs n = (on.set k (q : Int)).take (k + 1) ++ burnGo (bs.set q (minL bs + s)) (xs.drop (k + 1))) := hide (by
          refine ⟨by rw [List.length_set]; exact hol, hbo.next hmem hs0 hs1, ?_⟩
          have hko : k < on.length := by omega
          rw [heq, HD.out, burnGo, hq, hix.2.1, List.take_succ_eq_append_getElem (by rw [List.length_set]; exact hko), List.take_set_of_le (Nat.le_refl k)]
          simp)
        have hcv := hS2.cellAt hvq
        have hfz := hS2.frozenAt q
        have hfo := hS.frozenAt k
        have hcok := hS.cellAt (List.getElem?_eq_getElem (show k < on.length by omega))
        generalize on[k] = old at hcok
        have hgl := (World.ownsRow.lt hS2 _ rfl).2
        have g1 := IntSl.grownSet hS k (q : Int)
        have o1 := IntSl.store hS k (q : Int)
        have bb := IntSl.row hS2 g1 (.inr (fun e => by have e : some (w1.heap.size + 1) = some w1.heap.size := e; injection e with e; omega))
        have g2 := IntSl.grownSet bb q (minL bs + s)
        have b2 := IntSl.store bb q (minL bs + s)
        have o2 := IntSl.row o1 g2 (.inr (fun e => by have e : some w1.heap.size = some (w1.heap.size + 1) := e; injection e with e; omega))
        have hb3 := (hb.grown g1 hsz (fun k hk => by injection hk with hk; omega)).grown g2 (by simp; omega) (fun k hk => by injection hk with hk; omega)
        generalize minL bs = v at *
        have hw1 : IntKind.i64.wrap (v + s) = v + s := IntWalk.i64_in _ (by omega)
        have HO2 := hide o2
        have HB2 := hide b2
        have HB3 := hide hb3
        have HMn := hide hMn
        have HIx := hide hIx
        have hz : (0 : Int) ≤ k := by omega
        have hz2 : (k : Int) < xs.length := by omega
        have hq0 : (0 : Int) ≤ q := by omega
        have hq1 : (q : Int) < n := by omega
        clear hol hbo heq hbl h0b hmem hix hq hMn hIx hvq hrng g1 o1 bb g2 b2 o2 hb3 hS hS2
        go_wp2_with fail
        refine HMn.out.mono ?_
        rintro e w3 ⟨rfl, rfl⟩
        go_wp2_with fail
        refine HIx.out.mono ?_
        rintro e w3 ⟨rfl, rfl⟩
        go_wp2_with fail
        go_roundw
        case rel => exact ⟨k + 1, on.set k (q : Int), bs.set q (v + s), hlt, by go_num, HF2, HO2.out, HB2.out, HB3.out⟩
        case measure => simp [intOf]; omega
      · have H3 : Hid (burnListL xs n = on) := hide (by
          obtain ⟨hol, -, heq⟩ := HF.out
          rw [heq, List.drop_of_length_le (by omega), List.take_of_length_le (by omega)]
          simp [burnGo])
        go_wp2_with fail
        refine bodyPost_ret (results_tmp rfl _ _ _) rfl ⟨_, rfl, by rw [H3.out]; exact hS, hb⟩
end Go.Proofs.YteloapholoechaaDoor
