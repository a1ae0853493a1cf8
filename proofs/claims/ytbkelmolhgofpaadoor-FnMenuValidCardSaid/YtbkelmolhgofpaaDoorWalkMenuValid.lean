/- For all drawn bytes the law of MenuValid answers true, and its argument reads as it did.
   Conditions: none. -/
import Derived.Test.YtbkelmolhgofpaaDoorLawKit
import Derived.Test.YtbkelmolhgofpaaDoorDrawMenu
namespace Go.Proofs.YtbkelmolhgofpaaDoor
open Go.RowKit Go.ChangeShapes Go.WideShapes Go.ChangeAt Go.Deep

theorem implMenuValid_at (g : Int) (A : Option Addr) (c n : Nat) (l : List Int) (b : Bool) (w : World) (hn : l.length = n) (hb : Hid (menuOk g l = b)) (hA : IntsAt w A l) (hl : n ≤ 1048576) :
    Calls Tryd.prog 16 #[.int .i64 g, .slice A n c] w fun e w' => e = .returned (.bool b) ∧ Below w.heap.size w w' := by
  subst hn
  have := implMenuValid_any g A c l w hA hl
  rwa [hb.out] at this
theorem menuOk_none {g : Int} {l : List Int} (h : menuOk g l = true) (hl : l.length ≤ 5) : menuOk g (l ++ [0]) = true := by
  have hg := menuOk_g h
  have hf := full_range hg.1 hg.2
  unfold menuOk rangeOk at h ⊢
  simp only [Bool.and_eq_true, decide_eq_true_eq] at h ⊢
  rw [List.all_append, Bool.and_eq_true]
  refine ⟨h.1, by simp; omega, h.2.2, ?_⟩
  simp only [List.all_cons, List.all_nil, Bool.and_true]
  rw [inR_iff]
  omega
theorem menuOk_other {g : Int} {l : List Int} : menuOk g (l ++ [(2 : Int) ^ g.toNat]) = false := by
  unfold menuOk rangeOk
  rw [List.all_append]
  have : ([(2 : Int) ^ g.toNat]).all (fun x => inR x 0 (full g)) = false := by
    simp only [List.all_cons, List.all_nil, Bool.and_true]
    cases h : inR ((2 : Int) ^ g.toNat) 0 (full g) with
    | false => rfl
    | true =>
      have h1 := inR_iff.1 h
      have h2 : full g = 2 ^ g.toNat - 1 := rfl
      omega
  rw [this]
  simp
theorem empty_lit {W : World} {lo g : Nat} (hg : W.heap[g]? = some (.cells #[] 3 (0, 0))) (hlo : lo ≤ g) : IntSl W lo (.slice (some ⟨g, 0, none⟩) 0 0) [] :=
  ⟨rfl, .inr ⟨g, 0, _, rfl, hlo, hg, by simp, by unfold maxLen; omega, by simp, by simp⟩⟩
theorem kept_lit {W wa : World} {k : Nat} {o : Obj} {q : Option Nat} (h : W.heap[k]? = some o) (hg : W.grownBy wa q) (hk : k < W.heap.size) (hne : q ≠ some k) : wa.heap[k]? = some o := (hg.block k hk (fun e => hne e.symm)).trans h
theorem below_pushG {w W wa : World} {o : Obj} {g n c lo : Nat} (hb : Below w.heap.size w W) (hg : (W.alloc o).grownBy wa (Value.slice (some ⟨g, 0, none⟩) n c).ownBlock) (hlo : lo ≤ g) (hw : w.heap.size ≤ lo) : Below w.heap.size w wa :=
  (hb.alloc hb.size _).grown hg (by have := hb.size; simp; omega) (fun j hj => by
    have hj : some g = some j := hj
    injection hj with hj
    omega)

theorem dIntSl {w : World} {lo : Nat} {v : Value} {xs : List Int} (h : IntSl w lo v xs) : IntSl w.drew lo v xs := h
theorem dIntsAt {w : World} {A : Option Addr} {xs : List Int} (h : IntsAt w A xs) : IntsAt w.drew A xs := h
theorem undrewG {w W : World} {q : Option Nat} (h : w.drew.grownBy W q) : w.grownBy W q := ⟨h.os, h.tape, h.output, h.size, h.block⟩

theorem undrewB {w W : World} (h : Below w.drew.heap.size w.drew W) : Below w.heap.size w W := ⟨h.os, h.tape, h.output, h.size, h.block⟩

theorem step_copy_intG {W : World} {ops : Array Oper} {o : Oper} {a : Act} {K : Act → World → Prop} {Q : Exit → Act → World → Prop} {E : Prop} (hgd : o.guard = none) (s x : Operand)
    (ho : o.op = .call { callee := .builtin .append, args := #[s, x], argTypes := #[23, 23] }) (lo : Nat) (v : Value) (hs : a.eval s = v) (hown : IntSl W lo v []) (hv : v ≠ .slice none 0 0)
    (ad : Addr) (m c : Nat) (xs : List Int) (hm : xs.length = m) (hx : a.eval x = .slice (some ad) m c) (hA : IntsAt W (some ad) xs) (hn : m ≤ 1048576) (hlo : lo ≤ W.heap.size)
    (h : ∀ g cap w', IntSl w' lo (.slice (some ⟨g, 0, none⟩) m cap) xs → W.grownBy w' v.ownBlock → K (a.put o.dst (.slice (some ⟨g, 0, none⟩) m cap)) w') :
    if Region.wanted o (yielded ops a.tmps) = true then Oper.wp Tryd.prog o a W K Q else E := by
  have hw : Region.wanted o (yielded ops a.tmps) = true := by simp [Region.wanted, hgd]
  rw [if_pos hw]
  exact wp_copy_int s x ho lo v hs hown hv ad m c xs hm hx hA hn hlo h

/-- A number of guests and a menu, drawn from bytes. -/
def DrawnMenu (w : World) (e : Ending) (w' : World) : Prop := ∃ (gs : Int) (ls : List Int) (g c : Nat), e = .returned (.tuple #[.int .i64 gs, .slice (some ⟨g, 0, none⟩) ls.length c]) ∧
  IntSl w' w.heap.size (.slice (some ⟨g, 0, none⟩) ls.length c) ls ∧ ls.length ≤ 7 ∧ (∀ x ∈ ls, 0 ≤ x ∧ x ≤ 64) ∧ -1 ≤ gs ∧ gs ≤ 7 ∧ Below w.heap.size w w'

set_option maxHeartbeats 1000000 in
theorem drawMenuValid_any (A : Option Addr) (c m : Nat) (w : World) (hB : BytesIn w A m) (hm : m ≤ 9223372036854775807) (hc : m ≤ c) (hc2 : c ≤ 9223372036854775807) :
    Calls Tryd.prog 15 #[.slice A m c] w (DrawnMenu w) := by
  go_enter Tryd.func15, Tryd.ntmps15
  go_wp2_with fail
  refine (open_any A c m w hB hm hc hc2).mono ?_
  rintro e w1 ⟨rfl, hR1, hb1⟩
  have hz1 := hb1.size
  go_wp2_with fail
  refine (l20Menu_any w.heap.size 0 2 _ hR1 (by omega) (by omega)).mono ?_
  rintro e w2 ⟨gs, ls, g, c2, rfl, hS2, hl7, hle, hg0, hg7, hR2, hg2⟩
  have hb2 : Below w.heap.size w w2 := hb1.grown hg2 hz1 (fun j hj => by injection hj with hj; omega)
  have HS2 := hide (ownsRow_mono hS2 hz1)
  have HLE := hide hle
  clear hg2 hS2 hle
  go_wp2_with fail
  refine bodyPost_ret (results_tmp2 rfl _ _ _) rfl ⟨gs, ls, g, c2, rfl, HS2.out, hl7, HLE.out, hg0, hg7, hb2⟩

set_option maxRecDepth 100000 in
set_option maxHeartbeats 4000000 in
theorem lawMenuValid_any (A : Option Addr) (c m : Nat) (w : World) (hB : BytesIn w A m) (hc : m ≤ c) (hc2 : c ≤ 9223372036854775807) :
    Calls Tryd.prog 3 #[.slice A m c] w fun e w' => e = .returned (.bool true) ∧ Below w.heap.size w w' := by
  by_cases hlen : (1048576 : Int) < m
  · go_enter Tryd.func3, Tryd.ntmps3
    go_wp2_with fail
    go_ret
    exact ⟨rfl, by go_grown⟩
  · go_enter Tryd.func3, Tryd.ntmps3
    go_wp2_with fail
    refine (drawMenuValid_any A c m w hB (by omega) hc hc2).mono ?_
    rintro e w1 ⟨gs, ls, g, c1, rfl, hS, hl7, hle, hg0, hg7, hb1⟩
    have HI1 := hide hS.ints
    clear hS hle
    obtain ⟨v, HV⟩ : ∃ v, Hid (menuOk gs ls = v) := ⟨_, hide rfl⟩
    have hbb : (v != v) = false := by simp
    go_wp2_with fail
    refine (implMenuValid_any _ _ _ _ _ HI1.out (by omega)).mono ?_
    rintro e w2 ⟨rfl, hB2⟩
    have hb2 := next hb1 hB2
    have HI2 := hide (HI1.out.below hB2)
    rw [HV.out]
    clear hB2 HI1
    go_wp2_with fail
    refine (specMenuValid_any _ _ _ _ _ HI2.out (by omega)).mono ?_
    rintro e w3 ⟨rfl, hB3⟩
    have hb3 := next hb2 hB3
    have HI3 := hide (HI2.out.below hB3)
    rw [HV.out]
    clear hB3 HI2
    cases v with
    | false =>
      go_wp2_with fail
      refine (alive_any _).mono ?_
      rintro e we ⟨rfl, hBe⟩
      go_wp2_with fail
      go_ret
      exact ⟨rfl, next hb3 hBe⟩
    | true =>
      have h6 := menuOk_len HV.out
      have hgs0 := (menuOk_g HV.out).1
      have hgs6 := (menuOk_g HV.out).2
      have hp := pow_range6 gs.toNat (by omega)
      have hzW := hb3.size
      have HO : Hid (IntSl (w3.alloc (.cells #[] 3)) w3.heap.size (.slice (some ⟨w3.heap.size, 0, none⟩) 0 0) []) := hide (empty_lit (heap_alloc_new w3 _) (Nat.le_refl _))
      have HIA := hide (HI3.out.below (w' := w3.alloc (.cells #[] 3)) (by go_grown))
      go_wp2_with (first | (at_builtin; refine wpList_wanted (by rfl) (wp_push_intG _ _ (by rfl) w3.heap.size (.slice (some ⟨g1, 0, none⟩) ls.length cap1) ls (by rfl) (World.ownsRow.alloc HA1.out _) wa.heap.size 0 (by rfl) (heap_alloc_new wa _) (by omega) (by simp at hza; simp; omega) ?_); intro g2 cap2 wb hown2 hgrow2; have HI9 := hide hown2.ints; have hbb2 := below_pushG hba hgrow2 (Nat.le_refl _) (Nat.le_trans hzW hg1); have hbb3 := below_pushG hba3 hgrow2 (Nat.le_refl _) hg1; clear hown2 hgrow2) | (at_builtin; refine wpList_wanted (by rfl) (wp_copy_int _ _ (by rfl) w3.heap.size (.slice (some ⟨w3.heap.size, 0, none⟩) 0 0) (by rfl) HO.out (by simp) ⟨g, 0, none⟩ ls.length c1 ls rfl (by rfl) HIA.out (by omega) (by simp) ?_); intro g1 cap1 wa hown1 hgrow1; have HA1 : Hid (IntSl wa w3.heap.size (.slice (some ⟨g1, 0, none⟩) ls.length cap1) ls) := hide hown1; have hba := below_pushG hb3 hgrow1 (Nat.le_refl _) hzW; have hza := hgrow1.size; have hza4 := hba.size; have hg1 := (HA1.out.cap).2.2.2.1; have hba3 := below_pushG (Below.refl w3.heap.size w3) hgrow1 (Nat.le_refl _) (Nat.le_refl _); clear hown1 hgrow1))
      have hzb := hbb2.size
      have HIB := hide (HI3.out.below hbb3)
      have hw1 : IntKind.i64.wrap ((2 : Int) ^ gs.toNat) = (2 : Int) ^ gs.toNat := IntWalk.i64_in _ (by omega)
      have HO1 : Hid (IntSl (wb.alloc (.cells #[] 3)) wb.heap.size (.slice (some ⟨wb.heap.size, 0, none⟩) 0 0) []) := hide (empty_lit (heap_alloc_new wb _) (Nat.le_refl _))
      have HIA1 := hide (HIB.out.below (w' := wb.alloc (.cells #[] 3)) (by go_grown))
      have HO2 : Hid (IntSl ((wb.alloc (.cells #[] 3)).alloc (.cells #[.int .i64 ((2 : Int) ^ gs.toNat)] 3)) wb.heap.size (.slice (some ⟨wb.heap.size, 0, none⟩) 0 0) []) := hide (World.ownsRow.alloc HO1.out _)
      have HIA2 := hide (HIB.out.below (w' := (wb.alloc (.cells #[] 3)).alloc (.cells #[.int .i64 ((2 : Int) ^ gs.toNat)] 3)) (by go_grown))
      have HL2 : Hid (((wb.alloc (.cells #[] 3)).alloc (.cells #[.int .i64 ((2 : Int) ^ gs.toNat)] 3)).heap[wb.heap.size + 1]? = some (.cells #[.int .i64 ((2 : Int) ^ gs.toNat)] 3 (0, 0))) := hide (by have := heap_alloc_new (wb.alloc (.cells #[] 3)) (.cells #[.int .i64 ((2 : Int) ^ gs.toNat)] 3); simpa using this)
      have HO3 : Hid (IntSl ((wb.alloc (.cells #[.int .i64 ((2 : Int) ^ gs.toNat)] 3)).alloc (.cells #[] 3)) wb.heap.size (.slice (some ⟨wb.heap.size + 1, 0, none⟩) 0 0) []) := hide (empty_lit (by have := heap_alloc_new (wb.alloc (.cells #[.int .i64 ((2 : Int) ^ gs.toNat)] 3)) (.cells #[] 3); simpa using this) (by omega))
      have HIA3 := hide (HIB.out.below (w' := (wb.alloc (.cells #[.int .i64 ((2 : Int) ^ gs.toNat)] 3)).alloc (.cells #[] 3)) (by go_grown))
      have HL3 : Hid (((wb.alloc (.cells #[.int .i64 ((2 : Int) ^ gs.toNat)] 3)).alloc (.cells #[] 3)).heap[wb.heap.size]? = some (.cells #[.int .i64 ((2 : Int) ^ gs.toNat)] 3 (0, 0))) := hide ((heap_alloc_old _ _ (by simp)).trans (heap_alloc_new wb _))
      go_region_law (first | ((refine step_push_int (by rfl) _ _ (by rfl) wb.heap.size (.slice (some ⟨g3, 0, none⟩) ls.length cap3) ls (by rfl) (World.ownsRow.alloc HA3.out _) wx.heap.size ((2 : Int) ^ gs.toNat) (by rfl) (heap_alloc_new wx _) (by omega) (by simp <;> omega) ?_); intro g4 cap4 wc hown4 hgrow4; have HI10 := hide hown4.ints; have hbc3 := below_pushG hbx hgrow4 (Nat.le_refl _) hg3; clear hown4 hgrow4) | ((refine step_push_int (by rfl) _ _ (by rfl) wb.heap.size (.slice (some ⟨g3, 0, none⟩) ls.length cap3) ls (by rfl) HA3.out (wb.heap.size + 1) ((2 : Int) ^ gs.toNat) (by rfl) HL.out (by omega) hzx ?_); intro g4 cap4 wc hown4 hgrow4; have HI10 := hide hown4.ints; have hbc3 := hbx.grown hgrow4 hzx (fun j hj => by have hj : some g3 = some j := hj; injection hj with hj; omega); clear hown4 hgrow4) | ((refine step_push_int (by rfl) _ _ (by rfl) wb.heap.size (.slice (some ⟨g3, 0, none⟩) ls.length cap3) ls (by rfl) HA3.out (wb.heap.size) ((2 : Int) ^ gs.toNat) (by rfl) HL.out (by omega) hzx ?_); intro g4 cap4 wc hown4 hgrow4; have HI10 := hide hown4.ints; have hbc3 := hbx.grown hgrow4 hzx (fun j hj => by have hj : some g3 = some j := hj; injection hj with hj; omega); clear hown4 hgrow4) | ((refine step_copy_intG (by rfl) _ _ (by rfl) wb.heap.size (.slice (some ⟨wb.heap.size, 0, none⟩) 0 0) (by rfl) (dIntSl HO1.out) (by simp) ⟨g, 0, none⟩ ls.length c1 ls rfl (by rfl) (dIntsAt HIA1.out) (by omega) (by first | omega | (simp <;> omega)) ?_); intro g3 cap3 wx hown3 hgrow3d; have hgrow3 := undrewG hgrow3d; clear hgrow3d; have HA3 : Hid (IntSl wx wb.heap.size (.slice (some ⟨g3, 0, none⟩) ls.length cap3) ls) := hide hown3; have hbx := below_pushG (Below.refl wb.heap.size wb) hgrow3 (by omega) (Nat.le_refl _); have hzx := hbx.size; have hg3 := (HA3.out.cap).2.2.2.1; clear hown3 hgrow3) | ((refine step_copy_intG (by rfl) _ _ (by rfl) wb.heap.size (.slice (some ⟨wb.heap.size, 0, none⟩) 0 0) (by rfl) (dIntSl HO2.out) (by simp) ⟨g, 0, none⟩ ls.length c1 ls rfl (by rfl) (dIntsAt HIA2.out) (by omega) (by first | omega | (simp <;> omega)) ?_); intro g3 cap3 wx hown3 hgrow3d; have hgrow3 := undrewG hgrow3d; clear hgrow3d; have HA3 : Hid (IntSl wx wb.heap.size (.slice (some ⟨g3, 0, none⟩) ls.length cap3) ls) := hide hown3; have hbx := below_pushG ((Below.refl wb.heap.size wb).alloc (Nat.le_refl _) (.cells #[] 3)) hgrow3 (by omega) (Nat.le_refl _); have hzx := hbx.size; have hg3 := (HA3.out.cap).2.2.2.1; have HL := hide (kept_lit HL2.out hgrow3 (by simp) (fun e => by have e : some wb.heap.size = some (wb.heap.size + 1) := e; injection e with e; omega)); clear hown3 hgrow3) | ((refine step_copy_intG (by rfl) _ _ (by rfl) wb.heap.size (.slice (some ⟨wb.heap.size + 1, 0, none⟩) 0 0) (by rfl) (dIntSl HO3.out) (by simp) ⟨g, 0, none⟩ ls.length c1 ls rfl (by rfl) (dIntsAt HIA3.out) (by omega) (by first | omega | (simp <;> omega)) ?_); intro g3 cap3 wx hown3 hgrow3d; have hgrow3 := undrewG hgrow3d; clear hgrow3d; have HA3 : Hid (IntSl wx wb.heap.size (.slice (some ⟨g3, 0, none⟩) ls.length cap3) ls) := hide hown3; have hbx := below_pushG ((Below.refl wb.heap.size wb).alloc (Nat.le_refl _) (.cells #[.int .i64 ((2 : Int) ^ gs.toNat)] 3)) hgrow3 (by omega) (Nat.le_refl _); have hzx := hbx.size; have hg3 := (HA3.out.cap).2.2.2.1; have HL := hide (kept_lit HL3.out hgrow3 (by simp <;> omega) (fun e => by have e : some (wb.heap.size + 1) = some wb.heap.size := e; injection e with e; omega)); clear hown3 hgrow3))
      all_goals
        have HI9c := hide (HI9.out.below hbc3)
        have hbw := next hbb2 hbc3
        have HC2 := hide (fun W hW => implMenuValid_at gs (some ⟨g4, 0, none⟩) cap4 (ls.length + 1) (ls ++ [(2 : Int) ^ gs.toNat]) false W (by simp) (hide menuOk_other) hW (by omega))
        by_cases h7 : ls.length = 6
        · have h71 : ((ls.length : Int) == 6) = true := by simp [h7]
          go_wp2_with fail
          refine (implMenuValid_at gs (some ⟨g4, 0, none⟩) cap4 7 (ls ++ [(2 : Int) ^ gs.toNat]) false wc (by simp; omega) (hide menuOk_other) HI10.out (by omega)).mono ?_
          rintro e w6 ⟨rfl, hB6⟩
          go_wp2_with fail
          go_ret
          exact ⟨rfl, next hbw hB6⟩
        · have h71 : ((ls.length : Int) == 6) = false := by simp; omega
          have HC1 := hide (fun W hW => implMenuValid_at gs (some ⟨g2, 0, none⟩) cap2 (ls.length + 1) (ls ++ [0]) true W (by simp) (hide (menuOk_none HV.out (by omega))) hW (by omega))
          go_wp2_with fail
          refine (HC1.out _ HI9c.out).mono ?_
          rintro e w6 ⟨rfl, hB6⟩
          have HI10c := hide (HI10.out.below hB6)
          have hbw2 := next hbw hB6
          clear hB6
          go_wp2_with fail
          refine (HC2.out _ HI10c.out).mono ?_
          rintro e w7 ⟨rfl, hB7⟩
          go_wp2_with fail
          go_ret
          exact ⟨rfl, next hbw2 hB7⟩
end Go.Proofs.YtbkelmolhgofpaaDoor
