/- For all drawn bytes the law of QuarrelsValid answers true, and its argument reads as it did.
   Conditions: none. -/
import Derived.Test.YtbkelmolhgofpaaDoorLawKit
import Derived.Test.YtbkelmolhgofpaaDoorDrawQuar
import Derived.Test.YtbkelmolhgofpaaDoorGuests6
namespace Go.Proofs.YtbkelmolhgofpaaDoor
open Go.RowKit Go.ChangeShapes Go.WideShapes Go.ChangeAt Go.Deep

theorem implQuarrelsValid_at (g : Int) (A : Option Addr) (c n : Nat) (l : List Int) (b : Bool) (w : World) (hn : l.length = n) (hb : Hid (quarOk g l = b)) (hA : IntsAt w A l) (hl : n ≤ 1048576) :
    Calls Tryd.prog 43 #[.int .i64 g, .slice A n c] w fun e w' => e = .returned (.bool b) ∧ Below w.heap.size w w' := by
  subst hn
  have := implQuarrelsValid_any g A c l w hA hl
  rwa [hb.out] at this
theorem odd_next {x : Int} (h : hasB x 0 = false) : hasB (x + 1) 0 = true := by
  unfold hasB at *
  simp at *
  omega
theorem quar_self {g : Int} {l : List Int} {x : Int} (h : quarOk g l = true) (hx : l[0]? = some x) : quarOk g (l.set 0 (x + 1)) = false := by
  have hp : 0 < l.length := (List.getElem?_eq_some_iff.1 hx).1
  have hs := quarOk_self h hp
  rw [List.getD_eq_getElem?_getD, hx] at hs
  refine quar_bad (a := 0) (b := 0) (by simpa using hp) (by simpa using hp) ?_
  unfold quarBad
  rw [List.getD_eq_getElem?_getD, List.getElem?_set_self (by simpa using hp)]
  rw [show hasB ((some (x + 1)).getD 0) 0 = true from odd_next hs]
  rfl
theorem quar_zeros {N : Nat} (h : N ≤ 6) : quarOk (N : Int) (tab N (fun _ => 0)) = true := by
  have : ∀ k : Fin 7, quarOk ((k.val : Nat) : Int) (tab k.val (fun _ => 0)) = true := by decide +kernel
  exact this ⟨N, by omega⟩
theorem copied_lit {W : World} {lo g : Nat} (hg : W.heap[g]? = some (.cells #[] 3 (0, 0))) (hlo : lo ≤ g) : IntSl W lo (.slice (some ⟨g, 0, none⟩) 0 0) [] :=
  ⟨rfl, .inr ⟨g, 0, _, rfl, hlo, hg, by simp, by unfold maxLen; omega, by simp, by simp⟩⟩
theorem below_copied {w W wa : World} {o : Obj} {g n c lo : Nat} (hb : Below w.heap.size w W) (hg : (W.alloc o).grownBy wa (Value.slice (some ⟨g, 0, none⟩) n c).ownBlock) (hlo : lo ≤ g) (hw : w.heap.size ≤ lo) : Below w.heap.size w wa :=
  (hb.alloc hb.size _).grown hg (by have := hb.size; simp; omega) (fun j hj => by
    have hj : some g = some j := hj
    injection hj with hj
    omega)

/-- A number of guests and quarrels, drawn from bytes. -/
def DrawnQuar (w : World) (e : Ending) (w' : World) : Prop := ∃ (gs : Int) (ls : List Int) (g c : Nat), e = .returned (.tuple #[.int .i64 gs, .slice (some ⟨g, 0, none⟩) ls.length c]) ∧
  IntSl w' w.heap.size (.slice (some ⟨g, 0, none⟩) ls.length c) ls ∧ ls.length ≤ 7 ∧ Below w.heap.size w w'

set_option maxHeartbeats 1000000 in
theorem drawQuarrelsValid_any (A : Option Addr) (c m : Nat) (w : World) (hB : BytesIn w A m) (hm : m ≤ 9223372036854775807) (hc : m ≤ c) (hc2 : c ≤ 9223372036854775807) :
    Calls Tryd.prog 42 #[.slice A m c] w (DrawnQuar w) := by
  go_enter Tryd.func42, Tryd.ntmps42
  go_wp2_with fail
  refine (open_any A c m w hB hm hc hc2).mono ?_
  rintro e w1 ⟨rfl, hR1, hb1⟩
  have hz1 := hb1.size
  go_wp2_with fail
  refine (l20Quarrels_any w.heap.size 0 2 _ hR1 (by omega) (by omega)).mono ?_
  rintro e w2 ⟨gs, ls, g, c2, rfl, hS2, hl7, hle, hg0, hg6, hR2, hg2⟩
  have hb2 : Below w.heap.size w w2 := hb1.grown hg2 hz1 (fun j hj => by injection hj with hj; omega)
  have HS2 := hide (ownsRow_mono hS2 hz1)
  clear hg2 hS2 hle
  go_wp2_with fail
  refine bodyPost_ret (results_tmp2 rfl _ _ _) rfl ⟨gs, ls, g, c2, rfl, HS2.out, hl7, hb2⟩

set_option maxRecDepth 100000 in
set_option maxHeartbeats 4000000 in
theorem lawQuarrelsValid_any (A : Option Addr) (c m : Nat) (w : World) (hB : BytesIn w A m) (hc : m ≤ c) (hc2 : c ≤ 9223372036854775807) :
    Calls Tryd.prog 11 #[.slice A m c] w fun e w' => e = .returned (.bool true) ∧ Below w.heap.size w w' := by
  by_cases hlen : (1048576 : Int) < m
  · go_enter Tryd.func11, Tryd.ntmps11
    go_wp2_with fail
    go_ret
    exact ⟨rfl, by go_grown⟩
  · go_enter Tryd.func11, Tryd.ntmps11
    go_wp2_with fail
    refine (drawQuarrelsValid_any A c m w hB (by omega) hc hc2).mono ?_
    rintro e w1 ⟨gs, ls, g, c1, rfl, hS, hl7, hb1⟩
    have HI1 := hide hS.ints
    clear hS
    obtain ⟨v, HV⟩ : ∃ v, Hid (quarOk gs ls = v) := ⟨_, hide rfl⟩
    have hbb : (v != v) = false := by simp
    go_wp2_with fail
    refine (implQuarrelsValid_any _ _ _ _ _ HI1.out (by omega)).mono ?_
    rintro e w2 ⟨rfl, hB2⟩
    have hb2 := next hb1 hB2
    have HI2 := hide (HI1.out.below hB2)
    rw [HV.out]
    clear hB2 HI1
    go_wp2_with fail
    refine (specQuarrelsValid_any _ _ _ _ _ HI2.out (by omega)).mono ?_
    rintro e w3 ⟨rfl, hB3⟩
    have hb3 := next hb2 hB3
    have HI3 := hide (HI2.out.below hB3)
    rw [HV.out]
    clear hB3 HI2
    cases v with
    | false =>
      go_wp2_with fail
      refine (implQuarrelsValid_at 0 none 0 0 [] true w3 rfl (hide (by decide +kernel)) (IntsAt.nil _ _) (by omega)).mono ?_
      rintro e w4 ⟨rfl, hB4⟩
      have hb4 := next hb3 hB4
      clear hB4
      go_wp2_with fail
      refine (alive_any _).mono ?_
      rintro e we ⟨rfl, hBe⟩
      go_wp2_with fail
      go_ret
      exact ⟨rfl, next hb4 hBe⟩
    | true =>
      obtain rfl : gs = ls.length := (quarOk_g HV.out).2.2.symm
      have hl6 : ls.length ≤ 6 := by have := (quarOk_g HV.out).2.1; omega
      have hzW := hb3.size
      have HO : Hid (IntSl (w3.alloc (.cells #[] 3)) w3.heap.size (.slice (some ⟨w3.heap.size, 0, none⟩) 0 0) []) := hide (copied_lit (heap_alloc_new w3 _) (Nat.le_refl _))
      have HIA := hide (HI3.out.below (w' := w3.alloc (.cells #[] 3)) (by go_grown))
      by_cases h0 : 0 < ls.length
      · have h0z : (0 : Int) < ls.length := by omega
        have h0b : ((ls.length : Int) == 0) = false := beq_false_of_ne (by omega)
        obtain ⟨x, HX⟩ : ∃ x, Hid (ls[0]? = some x) := ⟨ls[0], hide (List.getElem?_eq_getElem h0)⟩
        have hxr := quarOk_at HV.out (List.mem_of_getElem? HX.out)
        have hx0 := hxr.1
        have hx1 := hxr.2.2
        have hw1 : IntKind.i64.wrap (x + 1) = x + 1 := IntWalk.i64_in _ (by omega)
        have hmk : ∀ w, (Instr.makeSlice 23 (.int .i64 (ls.length : Int)) (.int .i64 (ls.length : Int))).run Tryd.prog w = .ok (.slice (some ⟨w.heap.size, 0, none⟩) ls.length ls.length) (w.alloc (.cells (madeCells #[.int .i64 0] ls.length) 3)) := fun w => make_ints ls.length (by omega) w
        clear hxr
        go_wp2_with (at_builtin; refine wpList_wanted (by rfl) (wp_copy_int _ _ (by rfl) w3.heap.size (.slice (some ⟨w3.heap.size, 0, none⟩) 0 0) (by rfl) HO.out (by simp) ⟨g, 0, none⟩ ls.length c1 ls rfl (by rfl) HIA.out (by omega) (by simp) ?_); intro g1 cap1 wa hown1 hgrow1; have HA1 : Hid (IntSl wa w3.heap.size (.slice (some ⟨g1, 0, none⟩) ls.length cap1) ls) := hide hown1; have hba := below_copied hb3 hgrow1 (Nat.le_refl _) hzW; have hza := hba.size; have hg1 := (HA1.out.cap).2.2.2.1; have hcx := HA1.out.cellAt HX.out; have hfx := HA1.out.frozenAt 0; clear hown1 hgrow1)
        have HN := hide (IntSl.store HA1.out 0 (x + 1)).ints
        have hbs := hba.grown (IntSl.grownSet HA1.out 0 (x + 1)) hza (fun k hk => by injection hk with hk; omega)
        have HZ := (zeros_tabG (wa.setCell ⟨g1, 0, none⟩ (.int .i64 (x + 1))) (lo := 0) ls.length (by omega) (by omega)).ints
        have HZ2 : Hid (IntsAt ((wa.setCell ⟨g1, 0, none⟩ (.int .i64 (x + 1))).alloc (.cells (madeCells #[.int .i64 0] ls.length) 3)) (some ⟨wa.heap.size, 0, none⟩) (tab ls.length (fun _ => 0))) := hide (by simpa using HZ)
        have HN2 := hide (HN.out.below (w' := (wa.setCell ⟨g1, 0, none⟩ (.int .i64 (x + 1))).alloc (.cells (madeCells #[.int .i64 0] ls.length) 3)) (by go_grown))
        have hbz := hbs.alloc hbs.size (.cells (madeCells #[.int .i64 0] ls.length) 3)
        clear HZ
        refine (implQuarrelsValid_at ls.length (some ⟨wa.heap.size, 0, none⟩) ls.length ls.length (tab ls.length (fun _ => 0)) true _ (tab_len _ _) (hide (quar_zeros hl6)) HZ2.out (by omega)).mono ?_
        rintro e w5 ⟨rfl, hB5⟩
        have hb5 := next hbz hB5
        have HN5 := hide (HN2.out.below hB5)
        clear hB5
        go_wp2_with fail
        refine (implQuarrelsValid_at ls.length (some ⟨g1, 0, none⟩) cap1 ls.length (ls.set 0 (x + 1)) false _ (by simp) (hide (quar_self HV.out HX.out)) HN5.out (by omega)).mono ?_
        rintro e w6 ⟨rfl, hB6⟩
        go_wp2_with fail
        go_ret
        exact ⟨rfl, next hb5 hB6⟩
      · obtain rfl : ls = [] := List.eq_nil_of_length_eq_zero (by omega)
        have hmk : ∀ w, (Instr.makeSlice 23 (.int .i64 0) (.int .i64 0)).run Tryd.prog w = .ok (.slice (some ⟨w.heap.size, 0, none⟩) 0 0) (w.alloc (.cells (madeCells #[.int .i64 0] 0) 3)) := fun w => make_ints 0 (by omega) w
        go_wp2_with (at_builtin; refine wpList_wanted (by rfl) (wp_copy_int _ _ (by rfl) w3.heap.size (.slice (some ⟨w3.heap.size, 0, none⟩) 0 0) (by rfl) HO.out (by simp) ⟨g, 0, none⟩ 0 c1 [] rfl (by rfl) HIA.out (by omega) (by simp) ?_); intro g1 cap1 wa hown1 hgrow1; have hba := below_copied hb3 hgrow1 (Nat.le_refl _) hzW; clear hown1 hgrow1)
        have hbz := hba.alloc hba.size (.cells (madeCells #[.int .i64 0] 0) 3)
        refine (implQuarrelsValid_at 0 (some ⟨wa.heap.size, 0, none⟩) 0 0 [] true _ rfl (hide (by decide +kernel)) (IntsAt.nil _ _) (by omega)).mono ?_
        rintro e w5 ⟨rfl, hB5⟩
        go_wp2_with fail
        go_ret
        exact ⟨rfl, next hbz hB5⟩
end Go.Proofs.YtbkelmolhgofpaaDoor
