/- The program's WorkStep: the first order in a state, the next piece of work, the copy of a kitchen.
   Conditions: lists have at most 1048576 elements; the two tables hold what the source says. -/
import Derived.Test.YthmpopdoihlfdaaDoorTick7
namespace Go.Proofs.YthmpopdoihlfdaaDoor
open Go.RowKit Go.ChangeShapes Go.WideShapes Go.ChangeAt Go.Deep

def pairOf : Option (Nat × Nat) → Int × Int
  | some (a, j) => ((a : Int), (j : Int))
  | none => (-1, -1)
def nextWorkL (l : List (List Order)) : Int × Int × Int :=
  match firstK 2 0 l with
  | some (a, j) => ((a : Int), (j : Int), 2)
  | none => match firstK 1 0 l with
    | some (a, j) => ((a : Int), (j : Int), 1)
    | none => ((nextGo 0 l).1, (nextGo 0 l).2, 0)
theorem firstK_hit {st : Int} {k j : Nat} {t : List Order} {r : List (List Order)} (h : firstGo st 0 t = some j) : firstK st k (t :: r) = some (k, j) := by rw [firstK, h]
theorem firstK_miss {st : Int} {k : Nat} {t : List Order} {r : List (List Order)} (h : firstGo st 0 t = none) : firstK st k (t :: r) = firstK st (k + 1) r := by rw [firstK, h]
theorem firstGo_hit {st : Int} {k : Nat} {o : Order} {r : List Order} (h : o.state = st) : firstGo st k (o :: r) = some k := by rw [firstGo, if_pos h]
theorem firstGo_miss {st : Int} {k : Nat} {o : Order} {r : List Order} (h : ¬ o.state = st) : firstGo st k (o :: r) = firstGo st (k + 1) r := by rw [firstGo, if_neg h]

set_option maxHeartbeats 2000000 in
theorem firstInState_any (A : Option Addr) (c : Nat) (l : List (List Order)) (st : Int) (w : World) (hA : TicksAt w A l) (hl : l.length ≤ 1048576) (hp : ∀ x ∈ l, x.length ≤ 1048576) :
    Calls Tryd.prog 74 #[.slice A l.length c, .int .i64 st] w fun e w' => e = .returned (.tuple #[.int .i64 (pairOf (firstK st 0 l)).1, .int .i64 (pairOf (firstK st 0 l)).2]) ∧ Below w.heap.size w w' := by
  have HP := hide hp
  clear hp
  go_enter Tryd.func74, Tryd.ntmps74
  go_wp2_with fail
  go_loopw [12] (fun i wr => ∃ k : Nat, k ≤ l.length ∧ i = .int .i64 k ∧ Hid (firstK st 0 l = firstK st k (l.drop k)) ∧ Below w.heap.size w wr) (fun i _ => l.length - (intOf i).toNat)
  case atStart => exact ⟨0, Nat.zero_le _, rfl, hide rfl, by go_grown⟩
  case round =>
    obtain ⟨k, hk, rfl, HG, hb⟩ := hrel
    have hsz := hb.size
    by_cases hlt : k < l.length
    · obtain ⟨b, off, A', c', rfl, hbl, hc1, hI⟩ := (hA.below hb) k l[k] (List.getElem?_eq_getElem hlt)
      have HD : Hid (l.drop k = l[k] :: l.drop (k + 1)) := hide (List.drop_eq_getElem_cons hlt)
      have hx : l[k].length ≤ 1048576 := HP.out _ (List.getElem_mem hlt)
      generalize l[k] = x at *
      have hz : (0 : Int) ≤ k := by omega
      have hz2 : (k : Int) < l.length := by omega
      go_wp2_with fail
      go_loopw [19] (fun j wr2 => ∃ m : Nat, m ≤ x.length ∧ j = .int .i64 m ∧ Hid (firstGo st 0 x = firstGo st m (x.drop m)) ∧ Below wr.heap.size wr wr2) (fun j _ => x.length - (intOf j).toNat)
      case atStart => exact ⟨0, Nat.zero_le _, rfl, hide rfl, Below.refl _ _⟩
      case round =>
        obtain ⟨m, hm, rfl, HJ, hd⟩ := hrel
        have hsz2 := hd.size
        have hbd := next hb hd
        by_cases hmlt : m < x.length
        · obtain ⟨b2, off2, rfl, hbl2, hd1, hd2⟩ := (hI.below hd) m x[m] (List.getElem?_eq_getElem hmlt)
          have HDJ : Hid (x.drop m = x[m] :: x.drop (m + 1)) := hide (List.drop_eq_getElem_cons hmlt)
          generalize x[m] = p at *
          have hz3 : (0 : Int) ≤ m := by omega
          have hz4 : (m : Int) < x.length := by omega
          by_cases h : p.state = st
          · have H3 : Hid (pairOf (firstK st 0 l) = ((k : Int), (m : Int))) := hide (by rw [HG.out, HD.out, firstK_hit (by rw [HJ.out, HDJ.out]; exact firstGo_hit h)]; rfl)
            have he : (p.state == st) = true := by simp [h]
            clear h
            go_wp2_with fail
            refine bodyPost_ret (results_tmp2 rfl _ _ _) rfl ⟨by rw [H3.out]; rfl, by go_grown⟩
          · have H3 : Hid (firstGo st 0 x = firstGo st (m + 1) (x.drop (m + 1))) := hide (by rw [HJ.out, HDJ.out]; exact firstGo_miss h)
            have he : (p.state == st) = false := by simp [h]
            clear h
            go_wp2_with fail
            go_roundw
            case rel => exact ⟨m + 1, hmlt, by go_num, H3, by go_grown⟩
            case measure => simp [intOf]; omega
        · have H3 : Hid (firstK st 0 l = firstK st (k + 1) (l.drop (k + 1))) := hide (by rw [HG.out, HD.out, firstK_miss (by rw [HJ.out, List.drop_of_length_le (by omega), firstGo])])
          go_wp2_with fail
          go_roundw
          case rel => exact ⟨k + 1, hlt, by go_num, H3, hbd⟩
          case measure => simp [intOf]; omega
    · have H3 : Hid (firstK st 0 l = none) := hide (by rw [HG.out, List.drop_of_length_le (by omega), firstK])
      go_wp2_with fail
      refine bodyPost_ret (results_tmp2 rfl _ _ _) rfl ⟨by rw [H3.out]; rfl, hb⟩

set_option maxHeartbeats 2000000 in
theorem nextWork_any (A : Option Addr) (c : Nat) (l : List (List Order)) (w : World) (hA : TicksAt w A l) (hl : l.length ≤ 1048576) (hp : ∀ x ∈ l, x.length ≤ 1048576) (hv : kitchenOkL l = true) (hTP : PiecesAt w) (hTN : NextAt w) :
    Calls Tryd.prog 67 #[.slice A l.length c] w fun e w' => e = .returned (.tuple #[.int .i64 (nextWorkL l).1, .int .i64 (nextWorkL l).2.1, .int .i64 (nextWorkL l).2.2]) ∧ Below w.heap.size w w' := by
  have HP := hide hp
  have HF := hide (nextFire_ok hv)
  clear hp hv
  cases h2 : firstK 2 0 l with
  | some q =>
    obtain ⟨a, j⟩ := q
    have H2 : Hid (pairOf (firstK 2 0 l) = ((a : Int), (j : Int))) := hide (by rw [h2]; rfl)
    have HR : Hid (nextWorkL l = ((a : Int), (j : Int), 2)) := hide (by unfold nextWorkL; rw [h2])
    have hz : ((a : Int) ≥ 0) := by omega
    clear h2
    rw [HR.out]
    go_enter Tryd.func67, Tryd.ntmps67
    go_wp2_with fail
    refine (firstInState_any _ _ _ _ _ hA hl HP.out).mono ?_
    rintro e w1 ⟨rfl, hB1⟩
    rw [H2.out]
    go_wp2_with fail
    exact bodyPost_ret (v := .tuple #[.int .i64 (a : Int), .int .i64 (j : Int), .int .i64 2]) (by simp [results, Tryd.results67, go_sem]) rfl ⟨rfl, hB1⟩
  | none =>
    have H2 : Hid (pairOf (firstK 2 0 l) = (-1, -1)) := hide (by rw [h2]; rfl)
    cases h1 : firstK 1 0 l with
    | some q =>
      obtain ⟨a, j⟩ := q
      have H1 : Hid (pairOf (firstK 1 0 l) = ((a : Int), (j : Int))) := hide (by rw [h1]; rfl)
      have HR : Hid (nextWorkL l = ((a : Int), (j : Int), 1)) := hide (by unfold nextWorkL; rw [h2, h1])
      have hz : ((a : Int) ≥ 0) := by omega
      clear h2 h1
      rw [HR.out]
      go_enter Tryd.func67, Tryd.ntmps67
      go_wp2_with fail
      refine (firstInState_any _ _ _ _ _ hA hl HP.out).mono ?_
      rintro e w1 ⟨rfl, hB1⟩
      rw [H2.out]
      go_wp2_with fail
      refine (firstInState_any _ _ _ _ _ (hA.below hB1) hl HP.out).mono ?_
      rintro e w2 ⟨rfl, hB2⟩
      rw [H1.out]
      go_wp2_with fail
      exact bodyPost_ret (v := .tuple #[.int .i64 (a : Int), .int .i64 (j : Int), .int .i64 1]) (by simp [results, Tryd.results67, go_sem]) rfl ⟨rfl, next hB1 hB2⟩
    | none =>
      have H1 : Hid (pairOf (firstK 1 0 l) = (-1, -1)) := hide (by rw [h1]; rfl)
      have HR : Hid (nextWorkL l = ((nextFireL l).1, (nextFireL l).2, 0)) := hide (by unfold nextWorkL; rw [h2, h1, HF.out])
      clear h2 h1
      rw [HR.out]
      generalize hq : nextFireL l = q
      have HQ := hide hq
      clear hq
      go_enter Tryd.func67, Tryd.ntmps67
      go_wp2_with fail
      refine (firstInState_any _ _ _ _ _ hA hl HP.out).mono ?_
      rintro e w1 ⟨rfl, hB1⟩
      rw [H2.out]
      go_wp2_with fail
      refine (firstInState_any _ _ _ _ _ (hA.below hB1) hl HP.out).mono ?_
      rintro e w2 ⟨rfl, hB2⟩
      rw [H1.out]
      go_wp2_with fail
      have hb2 := next hB1 hB2
      refine (implNextFire_any _ _ _ _ (hA.below hb2) hl HP.out (hTP.below hb2) (hTN.below hb2)).mono ?_
      rintro e w3 ⟨rfl, hB⟩
      rw [HQ.out]
      go_wp2_with fail
      exact bodyPost_ret (v := .tuple #[.int .i64 q.1, .int .i64 q.2, .int .i64 0]) (by simp [results, Tryd.results67, go_sem]) rfl ⟨rfl, next hb2 hB⟩

set_option maxRecDepth 100000 in
set_option maxHeartbeats 1000000 in
theorem copyKitchen_any (A : Option Addr) (c : Nat) (l : List (List Order)) (w : World) (hA : TicksAt w A l) (hl : l.length ≤ 1048576) (hp : ∀ x ∈ l, x.length ≤ 1048576) :
    Calls Tryd.prog 66 #[.slice A l.length c] w fun e w' => e = .returned (.slice (some ⟨w.heap.size, 0, none⟩) l.length l.length) ∧ TickSl w' w.heap.size (.slice (some ⟨w.heap.size, 0, none⟩) l.length l.length) l ∧ Below w.heap.size w w' := by
  have hmk := make_ticks l.length hl
  have HP := hide hp
  have HZ := hide (fillT_zero w w.heap.size l (Nat.le_refl _) hl)
  clear hp
  go_enter Tryd.func66, Tryd.ntmps66
  go_wp2_with fail
  clear hmk
  go_loopw [11] (fun i wr => ∃ k : Nat, k ≤ l.length ∧ i = .int .i64 k ∧ TickSl wr w.heap.size (.slice (some ⟨w.heap.size, 0, none⟩) l.length l.length) (fillT l k) ∧ Below w.heap.size w wr) (fun i _ => l.length - (intOf i).toNat)
  case atStart => exact ⟨0, Nat.zero_le _, rfl, HZ.out, by go_grown⟩
  case round =>
    clear HZ
    obtain ⟨k, hk, rfl, hS, hb⟩ := hrel
    have hsz := hb.size
    by_cases hlt : k < l.length
    · obtain ⟨b, off, A', c', rfl, hbl, hc1, hpa⟩ := (hA.below hb) k l[k] (List.getElem?_eq_getElem hlt)
      have HX : Hid (l[k]? = some l[k]) := hide (List.getElem?_eq_getElem hlt)
      have hx : l[k].length ≤ 1048576 := HP.out _ (List.getElem_mem hlt)
      generalize l[k] = x at *
      have hz : (0 : Int) ≤ k := by omega
      have hz2 : (k : Int) < l.length := by omega
      have HS := hide hS
      have hg0 := hS.lt
      clear hS
      go_wp2_with fail
      refine (copyTicket_any _ _ _ _ hpa hx).mono ?_
      rintro e w' ⟨u, rfl, hO, hB⟩
      obtain ⟨A5, c5, rfl, -⟩ := OrderSl.form hO
      have hb2 : Below w.heap.size w w' := next hb hB
      have hsz2 := hb2.size
      have hS2 := HS.out.below hB
      obtain ⟨u0, hq1⟩ := hS2.cell k (by rw [fillT_len]; exact hlt)
      have hf1 := hS2.frozen k
      have HN : Hid (TickSl (w'.setCell ⟨w.heap.size, k, none⟩ (.slice A5 x.length c5)) w.heap.size (.slice (some ⟨w.heap.size, 0, none⟩) l.length l.length) (fillT l (k + 1))) := hide (by
        rw [← fillT_set HX.out]
        exact HS.out.store hB hsz hO k (by rw [fillT_len]; exact hlt))
      clear hS2 HS hO
      go_wp2_with fail
      go_roundw
      case rel => exact ⟨k + 1, hlt, by go_num, HN.out, by go_grown⟩
      case measure => simp [intOf]; omega
    · have HE : Hid (TickSl wr w.heap.size (.slice (some ⟨w.heap.size, 0, none⟩) l.length l.length) l) := hide (by
        have : k = l.length := by omega
        subst this
        rw [fillT_all] at hS
        exact hS)
      clear hS
      go_wp2_with fail
      go_ret
      exact ⟨rfl, HE.out, by go_grown⟩

theorem getD_row {l : List (List Order)} {a : Nat} {x : List Order} (h : l[a]? = some x) : l.getD a [] = x := by rw [List.getD_eq_getElem?_getD, h]; rfl
theorem at_getD {ls : List Order} {i : Nat} (h : i < ls.length) : ls[i]? = some (ls.getD i ⟨0, 0⟩) := by rw [List.getD_eq_getElem?_getD, List.getElem?_eq_getElem h]; rfl
theorem at_getD_row {l : List (List Order)} {a : Nat} (h : a < l.length) : l[a]? = some (l.getD a []) := by rw [List.getD_eq_getElem?_getD, List.getElem?_eq_getElem h]; rfl

theorem nextWork_spec {l : List (List Order)} (h : kitchenOkL l = true) : (nextWorkL l = (-1, -1, 0) ∧ workStepL l = (l, false)) ∨
    ∃ (a j e : Nat) (x : List Order) (p : Order), nextWorkL l = ((a : Int), (j : Int), (e : Int)) ∧ e < 3 ∧ l[a]? = some x ∧ x[j]? = some p ∧ p.state = e ∧ workStepL l = (putK l a j ((e : Int) + 1), true) := by
  unfold nextWorkL workStepL
  rw [if_pos h]
  cases h2 : firstK 2 0 l with
  | some q =>
    obtain ⟨a, j⟩ := q
    obtain ⟨_, g2, g3, g4⟩ := firstK_some h2
    rw [Nat.sub_zero] at g2 g3 g4
    exact .inr ⟨a, j, 2, _, _, rfl, by omega, at_getD_row g2, at_getD g3, g4, rfl⟩
  | none =>
    cases h1 : firstK 1 0 l with
    | some q =>
      obtain ⟨a, j⟩ := q
      obtain ⟨_, g2, g3, g4⟩ := firstK_some h1
      rw [Nat.sub_zero] at g2 g3 g4
      exact .inr ⟨a, j, 1, _, _, rfl, by omega, at_getD_row g2, at_getD g3, g4, rfl⟩
    | none =>
      rcases nextGo_spec l 0 with e | ⟨a, i, e, ha, hm⟩
      · left
        rw [e]
        exact ⟨rfl, rfl⟩
      · right
        obtain ⟨_, g2, g3⟩ := mayOf_lt hm
        rw [e]
        refine ⟨a, i, 0, _, _, by simp, by omega, at_getD_row ha, at_getD g2, g3, ?_⟩
        simp only [Int.toNat_natCast, Nat.zero_add]
        rw [if_neg (by omega)]
        rfl

theorem tbl_same {e : Nat} (h : e < 3) : tbl e e = (e : Int) + 1 := by
  rcases (by omega : e = 0 ∨ e = 1 ∨ e = 2) with rfl | rfl | rfl <;> rfl

set_option maxRecDepth 100000 in
set_option maxHeartbeats 2000000 in
theorem implWorkStep_any (A : Option Addr) (c : Nat) (l : List (List Order)) (w : World) (hA : TicksAt w A l) (hl : l.length ≤ 1048576) (hp : ∀ x ∈ l, x.length ≤ 1048576) (hTP : PiecesAt w) (hTN : NextAt w) :
    Calls Tryd.prog 44 #[.slice A l.length c] w fun e w' => ∃ u, e = .returned (.tuple #[u, .bool (workStepL l).2]) ∧ TickSl w' w.heap.size u (workStepL l).1 ∧ Below w.heap.size w w' := by
  have HP := hide hp
  clear hp
  cases hv : kitchenOkL l with
  | false =>
    have HV := hide hv
    have HR : Hid (workStepL l = ([], false)) := hide (by unfold workStepL; rw [hv]; rfl)
    clear hv
    rw [HR.out]
    go_enter Tryd.func44, Tryd.ntmps44
    go_wp2_with fail
    refine (implKitchenValid_any _ _ _ _ hA hl HP.out hTP).mono ?_
    rintro e w1 ⟨rfl, hB1⟩
    rw [HV.out]
    go_wp2_with fail
    refine bodyPost_ret (results_tmp2 rfl _ _ _) rfl ⟨.slice none 0 0, rfl, ⟨[], World.ownsRow_nil _ _ _ _, fun i x hx => by simp at hx, fun i j u u' k _ hu => by simp at hu⟩, hB1⟩
  | true =>
    have HV := hide hv
    have h4 := kitchenOk_len hv
    rcases nextWork_spec hv with ⟨e1, e2⟩ | ⟨a, j, ev, x, p, e1, he3, hax, hjp, hst, e2⟩
    · have H1 := hide e1
      have H2 := hide e2
      clear e1 e2
      rw [H2.out]
      go_enter Tryd.func44, Tryd.ntmps44
      go_wp2_with fail
      refine (implKitchenValid_any _ _ _ _ hA hl HP.out hTP).mono ?_
      rintro e w1 ⟨rfl, hB1⟩
      rw [HV.out]
      go_wp2_with fail
      refine (copyKitchen_any _ _ _ _ (hA.below hB1) hl HP.out).mono ?_
      rintro e w2 ⟨rfl, hS, hB2⟩
      have hb2 := next hB1 hB2
      have HS2 := hide hS
      clear hS
      go_wp2_with fail
      refine (nextWork_any _ _ _ _ (hA.below hb2) hl HP.out HV.out (hTP.below hb2) (hTN.below hb2)).mono ?_
      rintro e w3 ⟨rfl, hB3⟩
      rw [H1.out]
      have hb3 := next hb2 hB3
      have HS3 := hide ((HS2.out.below hB3).mono hB1.size)
      go_wp2_with fail
      refine bodyPost_ret (results_tmp2 rfl _ _ _) rfl ⟨_, rfl, HS3.out, hb3⟩
    · have H1 := hide e1
      have H2 := hide e2
      have HAX := hide hax
      have HJP := hide hjp
      have hal : a < l.length := (List.getElem?_eq_some_iff.1 hax).1
      have hjl : j < x.length := (List.getElem?_eq_some_iff.1 hjp).1
      have hz : (0 : Int) ≤ a := by omega
      have hz2 : (a : Int) < l.length := by omega
      have hz3 : (0 : Int) ≤ j := by omega
      have hz4 : (j : Int) < x.length := by omega
      have hz5 : (0 : Int) ≤ ev := by omega
      have hz6 : (ev : Int) < 4 := by omega
      have hz7 : (ev : Int) < 5 := by omega
      have hneg : ¬ (a : Int) < 0 := by omega
      have hput : Hid (putK l a j ((ev : Int) + 1) = l.set a (turned x j ((ev : Int) + 1))) := hide (by unfold putK; rw [getD_row hax])
      clear e1 e2 hax hjp hv
      rw [H2.out]
      go_enter Tryd.func44, Tryd.ntmps44
      go_wp2_with fail
      refine (implKitchenValid_any _ _ _ _ hA hl HP.out hTP).mono ?_
      rintro e w1 ⟨rfl, hB1⟩
      rw [HV.out]
      go_wp2_with fail
      refine (copyKitchen_any _ _ _ _ (hA.below hB1) hl HP.out).mono ?_
      rintro e w2 ⟨rfl, hS, hB2⟩
      have hb2 := next hB1 hB2
      have HS2 := hide (hS.mono hB1.size)
      clear hS
      go_wp2_with fail
      refine (nextWork_any _ _ _ _ (hA.below hb2) hl HP.out HV.out (hTP.below hb2) (hTN.below hb2)).mono ?_
      rintro e w3 ⟨rfl, hB3⟩
      rw [H1.out]
      have hb3 := next hb2 hB3
      have HS3 := hide (HS2.out.below hB3)
      obtain ⟨b, off, A', c', rfl, hbl, hc1, hI⟩ := (hA.below hb3) a x HAX.out
      obtain ⟨b2, off2, rfl, hbl2, hd1, hd2⟩ := hI j p HJP.out
      obtain ⟨A5, c5, hq1, hSx, hgl, hset⟩ := HS3.out.at_ HAX.out
      obtain ⟨g5, rfl, hg51, hg52⟩ := OrderSl.block hSx (by omega)
      have hIx : OrdersAt w3 (some ⟨g5, 0, none⟩) x := OrderSl.orders hSx
      obtain ⟨b', off', e', -, hx1, hx2⟩ := hIx j p HJP.out
      injection e' with e'
      injection e' with e1 e2
      subst e1 e2
      rw [Nat.zero_add] at hx1 hx2
      obtain ⟨hgl4, htc⟩ := (hTN.below hb3) ev ev (by omega) (by omega)
      rw [tbl_same he3] at htc
      have hf := fun i => World.ownsRow.frozenAt hSx i
      have HN : Hid (TickSl (w3.setCell ⟨g5, j * 2 + 1, none⟩ (.int .i64 ((ev : Int) + 1))).drew w.heap.size (.slice (some ⟨w1.heap.size, 0, none⟩) l.length l.length) (putK l a j ((ev : Int) + 1))) := hide (by
        rw [hput.out]
        exact hset _ _ (turned_len ..) (by rw [show x.length = x.length from rfl]; exact OrderSl.turn hSx j hjl _) ((World.ownsRow.stored hSx (j * 2 + 1) (.int .i64 ((ev : Int) + 1))).2.trans ⟨rfl, rfl, rfl, Nat.le_refl _, fun _ _ _ => rfl⟩))
      have hbs : Below w.heap.size w (w3.setCell ⟨g5, j * 2 + 1, none⟩ (.int .i64 ((ev : Int) + 1))).drew := by go_grown
      have HBS := hide hbs
      rw [hst] at hd2 hx2
      clear hbs hset hSx hIx hI
      go_wp2_with fail
      refine still_tail_drew 19 (by kernel_rfl) (by kernel_rfl) ?_
      simp only [List.take_succ_cons, List.take_zero, List.drop_succ_cons, List.drop_zero]
      repeat still_step
      refine wpStill_nil ?_
      go_wp2_with fail
      refine bodyPost_ret (results_tmp2 rfl _ _ _) rfl ⟨_, rfl, HN.out, HBS.out⟩
end Go.Proofs.YthmpopdoihlfdaaDoor
