/- Delay: the contract of delay: each step begins as late as it can.
   Conditions: the tasks are valid. -/
import Derived.Test.YtgagfaajilbmmaaBack
import Derived.Test.YtgagfaajilbmmaaLateS
namespace Go.Proofs.Ytgagfaajilbmmaa
open Go.RowKit Go.Shelf

attribute [local go_sem] Oper.semAt_some

theorem StepsR.apart {w : World} {lo n : Nat} {l : List Task} {o : List Int} {G H : Nat → Nat} (h : StepsR w lo l o n G H) (hn : n ≤ l.length) (ho : n ≤ o.length) {i k : Nat} (hi : i < n) (hk : k < n) : H i ≠ G k ∧ (i ≠ k → G i ≠ G k) := by
  obtain ⟨-, a2, a3, -, -⟩ := h i _ _ hi (List.getElem?_eq_getElem (show i < l.length by omega)) (List.getElem?_eq_getElem (show i < o.length by omega))
  obtain ⟨-, b2, b3, -, -⟩ := h k _ _ hk (List.getElem?_eq_getElem (show k < l.length by omega)) (List.getElem?_eq_getElem (show k < o.length by omega))
  rcases Nat.lt_trichotomy i k with e | e | e
  · have := b3 i e
    exact ⟨by omega, fun _ => by omega⟩
  · subst e
    exact ⟨by omega, fun hh => absurd rfl hh⟩
  · have := a3 k e
    exact ⟨by omega, fun _ => by omega⟩
theorem StepsR.set {w : World} {lo n k : Nat} {l : List Task} {o : List Int} {G H : Nat → Nat} {v : Int} (h : StepsR w lo l o n G H) (hn : n ≤ l.length) (ho : n ≤ o.length) (hk : k < n) : StepsR (w.setCell ⟨G k, 1, none⟩ (.int .i64 v)) lo l (o.set k v) n G H := fun i x s hi hx hs => by
  have hap := h.apart hn ho hi hk
  by_cases e : i = k
  · subst e
    rw [List.getElem?_set_self (by omega)] at hs
    injection hs with hs
    subst hs
    obtain ⟨h1, h2, h3, h4, h5⟩ := h i x _ hi hx (List.getElem?_eq_getElem (show i < o.length by omega))
    exact ⟨h1, h2, h3, stepRow_set h4, h5.far hap.1 _⟩
  · rw [List.getElem?_set_ne (fun e' => e e'.symm)] at hs
    obtain ⟨h1, h2, h3, h4, h5⟩ := h i x s hi hx hs
    exact ⟨h1, h2, h3, World.rowIs.setOther h4 (hap.2 e) _, h5.far hap.1 _⟩
theorem StepsR.gt {w : World} {lo n i : Nat} {l : List Task} {o : List Int} {G H : Nat → Nat} (h : StepsR w lo l o n G H) (hn : n ≤ l.length) (ho : n ≤ o.length) (hi : i < n) : lo < G i ∧ G i < w.heap.size := by
  obtain ⟨a1, a2, a3, a4, -⟩ := h i _ _ hi (List.getElem?_eq_getElem (show i < l.length by omega)) (List.getElem?_eq_getElem (show i < o.length by omega))
  exact ⟨by omega, World.rowIs.lt a4⟩
theorem kpAt_put {B b q : Nat} {W : World} {o : Obj} (h1 : B ≠ q) (h2 : b ≠ q) : KpAt B b W (W.putObj q o) := fun k j h => by
  rcases h with rfl | rfl
  · exact World.cell?_of_block (a := ⟨k, j, none⟩) (World.putObj_heap_other (by first | exact h1 | exact h1.symm))
  · exact World.cell?_of_block (a := ⟨k, j, none⟩) (World.putObj_heap_other (by first | exact h2 | exact h2.symm))
/-- A change of what is no cells leaves rows as they are. -/
theorem rowIs_turn {A B : World} {b : Nat} {T : TypeId} {n : Nat} {f : Nat → Value} {row : Option Nat} (h : A.rowIs b T n f) (hg : A.grownBy B row) (hr : ∀ r, row = some r → ∃ o : Obj, A.heap[r]? = some o ∧ o.isCells = false) : B.rowIs b T n f := by
  obtain ⟨cs, hb, h1, h2⟩ := h
  refine World.rowIs.of_block ⟨cs, hb, h1, h2⟩ (hg.block b (Array.getElem?_eq_some_iff.1 hb).1 (fun e => ?_))
  obtain ⟨o, ho, hc⟩ := hr b e.symm
  rw [hb] at ho
  injection ho with ho
  subst ho
  cases hc
theorem StepsR.turn {A B : World} {lo k : Nat} {l : List Task} {ss : List Int} {G H : Nat → Nat} {row : Option Nat} (h : StepsR A lo l ss k G H) (hg : A.grownBy B row) (hr : ∀ r, row = some r → ∃ o : Obj, A.heap[r]? = some o ∧ o.isCells = false) : StepsR B lo l ss k G H := fun i x s hi hx hs => by
  obtain ⟨h1, h2, h3, h4, h5⟩ := h i x s hi hx hs
  exact ⟨h1, h2, h3, rowIs_turn h4 hg hr, rowIs_turn h5 hg hr⟩

theorem late_firstE {l : List Task} {en : Int} (h : tasksOk l = true) (h0 : 0 ≤ en) (h1 : en ≤ 210) : LateB l (-30) (l.map (fun x => en - x.span)) :=
  ⟨by simp, fun t ht => by
    obtain ⟨x, hx, rfl⟩ := List.mem_map.1 ht
    have a := tasks_span h x hx
    omega⟩
/-- The latest times as they are found, whatever is handed over. -/
def lateRowW (l : List Task) (k : Nat) : List Int → List Int → List Int
  | out, [] => out
  | out, a :: r => lateRowW l k (out.set a.toNat (if IntKind.i64.wrap (out.getD k 0 - spanAt l a.toNat) < out.getD a.toNat 0 then IntKind.i64.wrap (out.getD k 0 - spanAt l a.toNat) else out.getD a.toNat 0)) r
def lateRun (l : List Task) (o : List Int) (ks : List Nat) : List Int := ks.foldl (fun o k => lateRowW l k o (l.getD k default).after) o
theorem lateRowW_len (l : List Task) (k : Nat) : ∀ (xs out : List Int), (lateRowW l k out xs).length = out.length
  | [], _ => rfl
  | a :: r, out => by rw [lateRowW, lateRowW_len l k r, List.length_set]
theorem lateRun_snoc (l : List Task) (o : List Int) (ks : List Nat) (k : Nat) : lateRun l o (ks ++ [k]) = lateRowW l k (lateRun l o ks) (l.getD k default).after := by
  unfold lateRun
  rw [List.foldl_append]
  rfl
theorem lateRowW_eq {l : List Task} {k : Nat} {B : Int} (hl : ∀ y ∈ l, 0 ≤ y.span ∧ y.span ≤ 30) (hk : k < l.length) (hB : -10000 ≤ B) : ∀ (xs out : List Int), (∀ a ∈ xs, 0 ≤ a ∧ a < (k : Int)) → LateB l B out → B + 30 ≤ out.getD k 0 → lateRowW l k out xs = lateRow l k out xs ∧ LateB l B (lateRow l k out xs)
  | [], out, _, hb, _ => ⟨rfl, hb⟩
  | a :: r, out, hx, hb, hok => by
    have ha := hx a (by simp)
    have hka := hb.at_ hk
    have haa := hb.at_ (i := a.toNat) (by omega)
    have hsp : 0 ≤ spanAt l a.toNat ∧ spanAt l a.toNat ≤ 30 := getD_span hl a.toNat
    have hw : IntKind.i64.wrap (out.getD k 0 - spanAt l a.toNat) = out.getD k 0 - spanAt l a.toNat := IntWalk.i64_in _ (by omega)
    rw [lateRowW, lateRow, hw]
    obtain ⟨v, hv⟩ : ∃ v, (if out.getD k 0 - spanAt l a.toNat < out.getD a.toNat 0 then out.getD k 0 - spanAt l a.toNat else out.getD a.toNat 0) = v := ⟨_, rfl⟩
    have hvr : B ≤ v ∧ v ≤ 210 := by rw [← hv]; split <;> omega
    rw [hv]
    refine lateRowW_eq hl hk hB r _ (fun b hb' => hx b (by simp [hb'])) (hb.put _ hvr.1 hvr.2) ?_
    rw [List.getD_eq_getElem?_getD, List.getElem?_set_ne (by omega), ← List.getD_eq_getElem?_getD]
    exact hok
theorem downs_cons (k : Nat) : downs (k + 1) 0 = k :: downs k 0 := by
  unfold downs
  simp only [Nat.sub_zero]
  rw [List.range_succ_eq_map, List.map_cons, List.map_map]
  congr 1
  refine List.map_congr_left (fun t _ => ?_)
  simp only [Function.comp]
  omega
theorem lateRun_go {l : List Task} (h : tasksOk l = true) : ∀ (k : Nat) (o : List Int), k ≤ l.length → LateB l (-30 * ((l.length : Int) - k + 1)) o → lateRun l o (downs k 0) = lateGo l k o
  | 0, o, _, _ => rfl
  | k + 1, o, hk, hb => by
    have h7 := tasksOk_len h
    have hx := List.getElem?_eq_getElem (show k < l.length by omega)
    have hr := lateRowW_eq (k := k) (B := -30 * ((l.length : Int) - k + 1)) (tasks_span h) (by omega) (by omega) (l[k]).after o (tasksOk_at h hx).2 (hb.low (by omega)) (by have := (hb.at_ (i := k) (by omega)).1; omega)
    rw [downs_cons]
    show lateRun l (lateRowW l k o (l.getD k default).after) (downs k 0) = lateGo l k (lateRow l k o (l.getD k default).after)
    rw [getDT_at hx, hr.1]
    exact lateRun_go h k _ (by omega) hr.2

set_option maxRecDepth 100000 in
set_option maxHeartbeats 8000000 in
theorem delay_any (g c : Nat) (l : List Task) (ss : List Int) (G H : Nat → Nat) (en : Int) (w : World) (HI : Hid (tasksOk l = true)) (hP : PtrRow w g l.length l.length G) (hS : StepsR w g l ss l.length G H) (hss : Hid (ss.length = l.length)) (he0 : 0 ≤ en) (he1 : en ≤ 210) (HPL : Hid (∀ x ∈ l, x.after.length ≤ 1048576)) :
    Calls Try.prog 42 #[.slice (some ⟨g, 0, none⟩) l.length c, .int .i64 en] w fun e w' => e = .returned (.tuple #[]) ∧ PtrRow w' g l.length l.length G ∧ StepsR w' g l (lateGo l l.length (l.map (fun x => en - x.span))) l.length G H ∧ Below g w w' := by
  have h7 := tasksOk_len HI.out
  have HSPN := hide (tasks_span HI.out)
  obtain ⟨n, hn⟩ : ∃ n : Nat, l.length = n := ⟨_, rfl⟩
  have HLN := hide hn
  rw [hn] at hP hS h7 ⊢
  have HP0 := hide hP
  have HS0 := hide hS
  have hgs : g < w.heap.size := World.rowIs.lt hP
  have hgw := hgs
  clear hn hP hS
  refine (callsIn_wide (n := 3)).1 ?_
  refine callsIn_of_wp_marks Try.func42 rfl trivial ?_ rfl
  simp only [Try.ntmps42, List.size_toArray, List.length_cons, List.length_nil, Nat.reduceAdd, Nat.reduceSub, Array.replicate_succ, Array.replicate_zero, List.push_toArray, List.append_toArray, List.nil_append, List.cons_append]
  gi_wp2
  gi_loopw [12] (fun iv wr => ∃ (k : Nat) (o : List Int), k ≤ n ∧ iv = .int .i64 k ∧ Hid (o.length = l.length ∧ ∀ i x, i < k → l[i]? = some x → o[i]? = some (en - x.span)) ∧ Hid (PtrRow wr g n n G) ∧ Hid (StepsR wr g l o n G H) ∧ g < wr.heap.size ∧ Below g w wr) (fun iv _ => n - (intOf iv).toNat)
  case atStart => exact ⟨0, ss, Nat.zero_le _, rfl, hide ⟨hss.out, fun i x hi => absurd hi (by omega)⟩, HP0, HS0, hgs, Below.refl _ _⟩
  case round =>
    clear HP0 HS0 hgs
    obtain ⟨k, o, hk, rfl, HO, HP, HS, hgs, hb⟩ := hrel
    by_cases hlt : k < n
    · obtain ⟨x, HX⟩ : ∃ x, Hid (l[k]? = some x) := ⟨_, hide (List.getElem?_eq_getElem (by rw [HLN.out]; exact hlt))⟩
      obtain ⟨s, hs⟩ : ∃ s, o[k]? = some s := ⟨_, List.getElem?_eq_getElem (by rw [HO.out.1, HLN.out]; exact hlt)⟩
      obtain ⟨hr1, hr2, hr3, hr4, hr5⟩ := HS.out k x s hlt HX.out hs
      have hcp := HP.out.at_ hlt hlt
      have hc0 := stepRow_0 hr4
      have hc1 := stepRow_1 hr4
      have hf1 := World.rowIs.frozen hr4 1
      have hgk := World.rowIs.lt hr4
      obtain ⟨hx0, hx1⟩ := HSPN.out x (List.mem_of_getElem? HX.out)
      have hz : (0 : Int) ≤ k := by omega
      have hz2 : (k : Int) < n := by omega
      have HS2 := hide (StepsR.set (v := en - x.span) HS.out (by rw [HLN.out]; exact Nat.le_refl _) (by rw [HO.out.1, HLN.out]; exact Nat.le_refl _) hlt)
      have HP2 : Hid (PtrRow (wr.setCell ⟨G k, 1, none⟩ (.int .i64 (en - x.span))) g n n G) := hide (HP.out.far (by simp; omega) _)
      have HO2 : Hid ((o.set k (en - x.span)).length = l.length ∧ ∀ i y, i < k + 1 → l[i]? = some y → (o.set k (en - x.span))[i]? = some (en - y.span)) := hide ⟨by rw [List.length_set]; exact HO.out.1, fun i y hi hy => by
        by_cases e : i = k
        · subst e
          rw [HX.out] at hy
          injection hy with hy
          subst hy
          rw [List.getElem?_set_self (by rw [HO.out.1, HLN.out]; exact hlt)]
        · rw [List.getElem?_set_ne (fun e' => e e'.symm)]
          exact HO.out.2 i y (by omega) hy⟩
      have hb2 : Below g w (wr.setCell ⟨G k, 1, none⟩ (.int .i64 (en - x.span))) := hb.setCell (p := ⟨G k, 1, none⟩) (by simp; omega) _
      clear hr4 hr5 hr3 hs
      gi_wp2
      go_roundw
      case rel => exact ⟨k + 1, o.set k (en - x.span), hlt, by go_num, HO2, HP2, HS2, by simpa using hgs, hb2⟩
      case measure => simp [intOf]; omega
    · have HOE : Hid (o = l.map (fun x => en - x.span)) := hide (by
        apply List.ext_getElem?
        intro i
        by_cases hi : i < l.length
        · have hx := List.getElem?_eq_getElem hi
          rw [HO.out.2 i _ (by have := HLN.out; omega) hx, List.getElem?_map, hx]
          rfl
        · rw [List.getElem?_eq_none (by rw [HO.out.1]; omega), List.getElem?_eq_none (by simp; omega)])
      gi_wp2
      refine ⟨trivial, ?_⟩
      refine (backward_in _ _ trivial rfl _ _ _ _).mono ?_
      rintro e w' ⟨rfl, rfl⟩
      gi_wp2
      obtain ⟨W1, hW1⟩ : ∃ W1, wr.alloc (.cells #[.slice (some ⟨g, 0, none⟩) n c] 71) = W1 := ⟨_, rfl⟩
      have hsz1 : W1.heap.size = wr.heap.size + 1 := by rw [← hW1]; simp
      have hB1 : Below wr.heap.size wr W1 := by rw [← hW1]; exact (Below.refl _ _).alloc (Nat.le_refl _) _
      have hbx : W1.cell? ⟨wr.heap.size, 0, none⟩ = some (.slice (some ⟨g, 0, none⟩) n c) := by rw [← hW1]; rw [cell_of_row _ _ 0 _ _ _ (heap_alloc_new wr _)]; rfl
      have hP1 := HP.out.below hB1
      have hS1 := HS.out.below hB1
      have hbw1 : Below g w W1 := hb.trans (hB1.mono (by omega))
      have HGB : Hid (∀ p, p < n → G p < wr.heap.size) := hide (fun p hp => (HS.out.gt (by rw [HLN.out]; exact Nat.le_refl _) (by rw [HO.out.1, HLN.out]; exact Nat.le_refl _) hp).2)
      have hOL : o.length = n := by rw [HO.out.1, HLN.out]
      have hlr : lateRun l o (([] : List (Fin n)).map (·.val)) = o := rfl
      rw [hW1]
      obtain ⟨Bx, hBx⟩ : ∃ Bx : Nat, wr.heap.size = Bx := ⟨_, rfl⟩
      rw [hBx] at hsz1 hbx hgs HGB ⊢
      clear hW1 hB1 hBx
      refine wpIn_rangeFunc_ownG (F := Fence.wide) (n := 3) rfl (by omega) (gf := 79) (lb := #[.pointer (some ⟨Bx, 0, none⟩)]) rfl trivial (enters_of Try.func79 (by kernel_rfl) rfl)
        (backward_stops Fence.wide 2 trivial rfl (by omega) Bx g n c G (by omega) W1 (by omega) (by omega) hbx (fun j hj => hP1.at_ hj hj)) (fun h k => KpAt.trans h k) (fun W q o1 o2 hq _ _ _ => kpAt_put (by omega) (by omega)) (Below.refl _ _) (fun _ => rfl)
        (fun pre W => (PtrRow W g n n G ∧ StepsR W g l (lateRun l o (pre.map (·.val))) n G H ∧ (lateRun l o (pre.map (·.val))).length = n) ∧ Below g w W)
        (fun _ _ _ => False)
        (OwnFrom.and (Own.from (fun s A B row hs hg hr => ⟨rowIs_turn hs.1 hg hr, hs.2.1.turn hg hr, hs.2.2⟩) _) (ownFrom_below (by omega) (by omega)))
        (fun _ _ _ _ _ hs _ _ => hs)
        ⟨⟨hP1, by rw [hlr]; exact hS1, by rw [hlr]; exact hOL⟩, hbw1⟩
        (fun x => { tmps := #[Value.slice (some ⟨g, 0, none⟩) n c, .int .i64 en, undef, undef, undef, u5, undef, .pointer (some ⟨G x.val, 0, none⟩), undef, undef, .slice (some ⟨g, 0, none⟩) n c, .int .i64 (n : Int), .int .i64 (k : Int), .bool false, u14, u15, u16, u17, u18, u19, u20, u21, u22, u23, u24, u25, .slice (some ⟨g, 0, none⟩) n c, .func (.func 79) #[] #[.pointer (some ⟨Bx, 0, none⟩)], .int .i64 ((x.val : Nat) : Int), .pointer (some ⟨G x.val, 0, none⟩), undef, undef, undef, undef, undef, undef, undef, undef, undef, undef, undef, undef, undef, undef, undef, undef, undef, undef, undef, undef, undef, undef, undef, undef, undef, undef, undef], defers := [] }) ?assign ?body ?done ?stop
      case assign =>
        intro l' x W K hK
        gi_wp2
        exact hK
      case body =>
        rintro l' pre ⟨x, hxn⟩ W ⟨⟨hPW, hSW, hLW⟩, hBW⟩ _
        obtain ⟨t, HX⟩ : ∃ t, Hid (l[x]? = some t) := ⟨_, hide (List.getElem?_eq_getElem (by rw [HLN.out]; exact hxn))⟩
        obtain ⟨oo, HOO⟩ : ∃ oo, Hid (lateRun l o (pre.map (·.val)) = oo) := ⟨_, hide rfl⟩
        rw [HOO.out] at hSW hLW
        have HNX : Hid (lateRun l o ((pre ++ [(⟨x, hxn⟩ : Fin n)]).map (fun q => q.val)) = lateRowW l x oo t.after) := hide (by
          rw [List.map_append, List.map_cons, List.map_nil, lateRun_snoc, HOO.out, getDT_at HX.out])
        obtain ⟨s0, hs0⟩ : ∃ s0, oo[x]? = some s0 := ⟨_, List.getElem?_eq_getElem (by omega)⟩
        obtain ⟨-, -, -, hr4, -⟩ := hSW x t s0 hxn HX.out hs0
        have hc2 := stepRow_2 hr4
        have HT : Hid (∀ a ∈ t.after, 0 ≤ a ∧ a < (x : Int)) := hide (tasksOk_at HI.out HX.out).2
        have htl : t.after.length ≤ 1048576 := HPL.out t (List.mem_of_getElem? HX.out)
        have HSW := hide hSW
        have HPW := hide hPW
        clear hr4 hs0 hSW hPW
        gi_wp2
        gi_loopw [35] (fun iv wi => ∃ (i : Nat) (o2 : List Int), i ≤ t.after.length ∧ iv = .int .i64 i ∧ Hid (lateRowW l x oo t.after = lateRowW l x o2 (t.after.drop i)) ∧ Hid (o2.length = n) ∧ Hid (PtrRow wi g n n G) ∧ Hid (StepsR wi g l o2 n G H) ∧ Hid (KeepsOthers W wi) ∧ Hid (KpAt Bx g W wi) ∧ Hid (Below g w wi)) (fun iv _ => t.after.length - (intOf iv).toNat)
        case atStart => exact ⟨0, oo, Nat.zero_le _, rfl, hide rfl, hide hLW, HPW, HSW, hide (KeepsOthers.refl _), hide (KpAt.refl _ _ _), hide hBW⟩
        case round =>
          clear HSW HPW
          obtain ⟨i, o2, hi, rfl, HR, HL2, HPi, HSi, HKO, HKP, HBi⟩ := hrel
          by_cases hit : i < t.after.length
          · obtain ⟨s2, hs2⟩ : ∃ s2, o2[x]? = some s2 := ⟨_, List.getElem?_eq_getElem (by rw [HL2.out]; exact hxn)⟩
            obtain ⟨-, -, -, hr4, hr5⟩ := HSi.out x t s2 hxn HX.out hs2
            have hx1 := stepRow_1 hr4
            have hpi := hr5.at_ hit hit
            obtain ⟨a, HAJ⟩ : ∃ a, Hid (t.after[i]? = some a) := ⟨_, hide (List.getElem?_eq_getElem hit)⟩
            have HDJ : Hid (t.after.drop i = a :: t.after.drop (i + 1)) := hide (by
              have := HAJ.out
              rw [List.getElem?_eq_getElem hit] at this
              injection this with this
              rw [List.drop_eq_getElem_cons hit, this])
            obtain ⟨p, rfl, hpx⟩ : ∃ p : Nat, a = p ∧ p < x := by
              have := HT.out a (List.mem_of_getElem? HAJ.out)
              exact ⟨a.toNat, by omega, by omega⟩
            rw [show (t.after.getD i 0).toNat = p from by rw [getDT_at HAJ.out]; omega] at hpi
            obtain ⟨y, HY⟩ : ∃ y, Hid (l[p]? = some y) := ⟨_, hide (List.getElem?_eq_getElem (by rw [HLN.out]; omega))⟩
            obtain ⟨s3, hs3⟩ : ∃ s3, o2[p]? = some s3 := ⟨_, List.getElem?_eq_getElem (by rw [HL2.out]; omega)⟩
            obtain ⟨-, -, -, hq4, -⟩ := HSi.out p y s3 (by omega) HY.out hs3
            have hp0 := stepRow_0 hq4
            have hp1 := stepRow_1 hq4
            have hpf := World.rowIs.frozen hq4 1
            have hgt := HSi.out.gt (by rw [HLN.out]; exact Nat.le_refl _) (by rw [HL2.out]; exact Nat.le_refl _) (show p < n by omega)
            obtain ⟨sv, hsv⟩ : ∃ sv, IntKind.i64.wrap (s2 - y.span) = sv := ⟨_, rfl⟩
            obtain ⟨nv, hnv⟩ : ∃ nv, (if sv < s3 then sv else s3) = nv := ⟨_, rfl⟩
            have HR2 : Hid (lateRowW l x oo t.after = lateRowW l x (o2.set p nv) (t.after.drop (i + 1))) := hide (by
              rw [HR.out, HDJ.out, lateRowW, Int.toNat_natCast, getDT_at hs2, getDT_at hs3, spanAt, getDT_at HY.out, hsv, hnv])
            have HL3 : Hid ((o2.set p nv).length = n) := hide (by rw [List.length_set]; exact HL2.out)
            have HP3 : Hid (PtrRow (wr.setCell ⟨G p, 1, none⟩ (.int .i64 nv)) g n n G) := hide (HPi.out.far (by simp; omega) _)
            have HS3 := hide (StepsR.set (v := nv) HSi.out (by rw [HLN.out]; exact Nat.le_refl _) (by rw [HL2.out]; exact Nat.le_refl _) (show p < n by omega))
            have hz : (0 : Int) ≤ i := by omega
            have hz2 : (i : Int) < t.after.length := by omega
            have hpn : Bx ≠ G p := by have := HGB.out p (by omega); omega
            have hpn2 : g ≠ G p := by omega
            gi_wp2
            refine wpIn_region_still 17 (by kernel_rfl) (by kernel_rfl) ?_ (fun ⟨_, _, h⟩ => h) ?_
            · intro q hq
              simp only [List.mem_cons, List.not_mem_nil, or_false] at hq
              rcases hq with rfl | rfl | rfl | rfl | rfl | rfl | rfl | rfl | rfl | rfl | rfl | rfl | rfl | rfl | rfl | rfl | rfl | rfl
              all_goals first | exact tame_of rfl | exact tame_nilCheck rfl | exact tame_min rfl
            simp only [List.take_succ_cons, List.take_zero, List.drop_succ_cons, List.drop_zero]
            repeat still_step
            refine wpStill_nil ?_
            go_wp2_with fail
            gi_wp2
            go_roundw
            case rel =>
              have hkp : KpAt Bx g wr (wr.setCell ⟨G p, 1, none⟩ (.int .i64 nv)).drew := fun q j h => by
                have hne : q ≠ G p := by rcases h with rfl | rfl <;> assumption
                exact World.cell?_of_block (a := ⟨q, j, none⟩) (heap_other hne)
              have hbs : Below g w (wr.setCell ⟨G p, 1, none⟩ (.int .i64 nv)) := HBi.out.setCell (p := ⟨G p, 1, none⟩) (by simp; omega) _
              exact ⟨i + 1, o2.set p nv, hit, by go_num, HR2, HL3, HP3, HS3, hide ((HKO.out.trans (KeepsOthers.setCell _ _ _)).trans (KeepsOthers.drew _)), hide (HKP.out.trans hkp), hide hbs.drew⟩
            case measure => simp [intOf]; omega
          · have hre : lateRowW l x oo t.after = o2 := by rw [HR.out, List.drop_of_length_le (by omega), lateRowW]
            gi_wp2
            exact ⟨HKO.out.from _, HKP.out, ⟨HPi.out, by rw [HNX.out, hre]; exact HSi.out, by rw [HNX.out, hre]; exact HL2.out⟩, HBi.out⟩
      case done =>
        rintro D ys W hD hys ⟨⟨hPW, hSW, -⟩, hBW⟩ hK
        have hgo : lateRun l o (ys.map (fun q => q.val)) = lateGo l n (l.map (fun x => en - x.span)) := by
          rw [hys, HOE.out]
          exact lateRun_go HI.out n _ (by rw [HLN.out]; exact Nat.le_refl _) ((late_firstE HI.out he0 he1).low (by rw [HLN.out]; omega))
        have hturn : ∀ r, some D = some r → ∃ o : Obj, W.heap[r]? = some o ∧ o.isCells = false := fun r e => by cases e; exact ⟨_, hK, rfl⟩
        rw [hgo] at hSW
        gi_wp2
        refine ⟨by simp, .inl ⟨_, _, rfl, run_takeDeferred hK, ?_⟩⟩
        exact ⟨_, results_none rfl _ _ _, rfl, rowIs_turn hPW (grownBy_putObj' W D _) hturn, hSW.turn (grownBy_putObj' W D _) hturn, hBW.trans (belowK_b (n₀ := g) (w := W1) (by omega) W D _ _ hD hK rfl rfl)⟩
      case stop =>
        rintro D c' pre W _ _ h _
        exact h.elim
end Go.Proofs.Ytgagfaajilbmmaa
