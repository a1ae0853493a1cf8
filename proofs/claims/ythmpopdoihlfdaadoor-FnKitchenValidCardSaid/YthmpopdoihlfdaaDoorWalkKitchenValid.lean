/- For all drawn bytes the law of KitchenValid answers true, and its argument reads as it did.
   Conditions: piecesLeft holds what the source says. -/
import Derived.Test.YthmpopdoihlfdaaDoorDrawKitK
import Derived.Test.YthmpopdoihlfdaaDoorAlive
import Derived.Test.YthmpopdoihlfdaaDoorTick6
namespace Go.Proofs.YthmpopdoihlfdaaDoor
open Go.RowKit Go.ChangeShapes Go.WideShapes Go.ChangeAt Go.Deep

theorem TicksAt.tail {w : World} {g off : Nat} {x : List Order} {r : List (List Order)} (h : TicksAt w (some ⟨g, off, none⟩) (x :: r)) : TicksAt w (some ⟨g, off + 1, none⟩) r := by
  intro i y hy
  obtain ⟨b, o, A, c, e, hlt, h1, h2⟩ := h (i + 1) y (by simpa using hy)
  injection e with e
  injection e with e1 e2
  subst e1 e2
  exact ⟨g, off + 1, A, c, rfl, hlt, by rw [show off + 1 + i = off + (i + 1) from by omega]; exact h1, h2⟩
theorem TicksAt.nil (w : World) (A : Option Addr) : TicksAt w A [] := fun i x hx => by simp at hx
theorem kitchen_tail {x : List Order} {r : List (List Order)} (h : kitchenOkL (x :: r) = true) : kitchenOkL r = true := by
  unfold kitchenOkL at h ⊢
  rw [Bool.and_eq_true, List.all_cons, Bool.and_eq_true, decide_eq_true_eq, List.length_cons] at h
  rw [h.2.2, decide_eq_true (by omega)]
  rfl

set_option maxRecDepth 100000 in
theorem tail_sliceT {G n d : Nat} {x : List Order} {r : List (List Order)} (hn : r.length = n) (hd : n + 1 ≤ d) : ∃ (A9 : Option Addr) (c9 : Nat),
    (∀ W, (Instr.slice 43 (.slice (some ⟨G, 0, none⟩) (n + 1) d) (some (.int .i64 1)) none none).run Tryd.prog W = .ok (.slice A9 n c9) W) ∧ (∀ W, (Instr.sliceAt 43 (.slice (some ⟨G, 0, none⟩) (n + 1) d) (some (.int .i64 1)) none none).run Tryd.prog W = .ok (.slice A9 n c9) W) ∧
    (∀ W, TicksAt W (some ⟨G, 0, none⟩) (x :: r) → TicksAt W A9 r) := by
  have ht : Tryd.prog.underlying 43 = some (.slice (Tryd.prog.elem 43)) := rfl
  have hz : ∀ W, (sizeOf (Tryd.prog.elem 43)).run Tryd.prog W = .ok 1 W := fun W => by rfl
  by_cases h1 : d = 1
  · subst h1
    obtain rfl : n = 0 := by omega
    obtain rfl : r = [] := List.eq_nil_of_length_eq_zero hn
    have : ∀ W, (Instr.slice 43 (.slice (some ⟨G, 0, none⟩) (0 + 1) 1) (some (.int .i64 1)) none none).run Tryd.prog W = .ok (.slice (some ⟨G, 0, none⟩) 0 0) W := fun W => by
      rw [run_slice_l W _ _ _ _ ht .i64 1 (by omega) (by simp), hz]; simp [Result.andThen, sliced]
    exact ⟨_, _, this, fun W => (run_sliceAt_slice W _ _ _ _ _ ht).trans (this W), fun W _ => TicksAt.nil _ _⟩
  · have : ∀ W, (Instr.slice 43 (.slice (some ⟨G, 0, none⟩) (n + 1) d) (some (.int .i64 1)) none none).run Tryd.prog W = .ok (.slice (some ⟨G, 1, none⟩) n (d - 1)) W := fun W => by
      rw [run_slice_l W _ _ _ _ ht .i64 1 (by omega) (by omega), hz]; simp [Result.andThen, sliced, Addr.add, h1]
    exact ⟨_, _, this, fun W => (run_sliceAt_slice W _ _ _ _ _ ht).trans (this W), fun W hW => TicksAt.tail hW⟩

set_option maxRecDepth 100000 in
set_option maxHeartbeats 4000000 in
theorem lawKitchenValid_any (A : Option Addr) (c m : Nat) (w : World) (hB : BytesIn w A m) (hc : m ≤ c) (hc2 : c ≤ 9223372036854775807) (hTP : PiecesAt w) :
    Calls Tryd.prog 9 #[.slice A m c] w fun e w' => e = .returned (.bool true) ∧ Below w.heap.size w w' := by
  by_cases hlen : (1048576 : Int) < m
  · go_enter Tryd.func9, Tryd.ntmps9
    go_wp2_with fail
    go_ret
    exact ⟨rfl, by go_grown⟩
  · go_enter Tryd.func9, Tryd.ntmps9
    go_wp2_with fail
    refine (drawKitchenValid_any A c m w hB (by omega) hc hc2).mono ?_
    rintro e w1 ⟨l, G, d, rfl, hS, h5, hx7, hb1⟩
    have HT1 := hide hS.rows
    have hcd := hS.capR.2.1
    have hll : l.length ≤ 1048576 := by omega
    have HX : Hid (∀ x ∈ l, x.length ≤ 1048576) := hide (fun x hx => by have := hx7 x hx; omega)
    clear hS hx7
    have HTP1 := hide (hTP.below hb1)
    have HN : Hid (kitchenOkL [] = true) := hide rfl
    cases hv : kitchenOkL l with
    | false =>
      have HV := hide hv
      clear hv
      go_wp2_with fail
      refine (implKitchenValid_any _ _ _ _ HT1.out hll HX.out HTP1.out).mono ?_
      rintro e w2 ⟨rfl, hB2⟩
      rw [HV.out]
      have hb2 := next hb1 hB2
      have HT2 := hide (HT1.out.below hB2)
      go_wp2_with fail
      refine (specKitchenValid_any _ _ _ _ HT2.out hll HX.out).mono ?_
      rintro e w3 ⟨rfl, hB3⟩
      rw [HV.out]
      have hb3 := next hb2 hB3
      have HTP3 := hide (hTP.below hb3)
      go_wp2_with fail
      refine (implKitchenValid_any none 0 [] _ (TicksAt.nil _ _) (by simp) (fun x hx => by simp at hx) HTP3.out).mono ?_
      rintro e w4 ⟨rfl, hB4⟩
      rw [HN.out]
      have hb4 := next hb3 hB4
      go_wp2_with fail
      refine (alive_any _).mono ?_
      rintro e w5 ⟨rfl, hB5⟩
      have hb5 := next hb4 hB5
      go_wp2_with fail
      go_ret
      exact ⟨rfl, hb5⟩
    | true =>
      have HV := hide hv
      cases l with
      | nil =>
        clear hv
        go_wp2_with fail
        refine (implKitchenValid_any _ _ _ _ HT1.out hll HX.out HTP1.out).mono ?_
        rintro e w2 ⟨rfl, hB2⟩
        rw [HV.out]
        have hb2 := next hb1 hB2
        have HT2 := hide (HT1.out.below hB2)
        go_wp2_with fail
        refine (specKitchenValid_any _ _ _ _ HT2.out hll HX.out).mono ?_
        rintro e w3 ⟨rfl, hB3⟩
        rw [HV.out]
        have hb3 := next hb2 hB3
        have HTP3 := hide (hTP.below hb3)
        go_wp2_with fail
        refine (implKitchenValid_any none 0 [] _ (TicksAt.nil _ _) (by simp) (fun x hx => by simp at hx) HTP3.out).mono ?_
        rintro e w4 ⟨rfl, hB4⟩
        rw [HN.out]
        have hb4 := next hb3 hB4
        go_wp2_with fail
        refine (alive_any _).mono ?_
        rintro e w5 ⟨rfl, hB5⟩
        have hb5 := next hb4 hB5
        go_wp2_with fail
        go_ret
        exact ⟨rfl, hb5⟩
      | cons x r =>
        have HVR := hide (kitchen_tail hv)
        have HXR : Hid (∀ y ∈ r, y.length ≤ 1048576) := hide (fun y hy => HX.out y (List.mem_cons_of_mem _ hy))
        obtain ⟨n, hn⟩ : ∃ n, r.length = n := ⟨_, rfl⟩
        have hln : (x :: r).length = n + 1 := by rw [List.length_cons, hn]
        have hnl : n ≤ 1048576 := by omega
        have hcap : n + 1 ≤ d := by rw [← hln]; exact hcd
        obtain ⟨A9, c9, hsl1, hsl2, hA9⟩ := tail_sliceT (G := G) (x := x) hn hcap
        have HI0 : Hid (∀ W : World, TicksAt W (some ⟨G, 0, none⟩) (x :: r) → PiecesAt W → Calls Tryd.prog 38 #[.slice A9 n c9] W fun e w' => e = .returned (.bool true) ∧ Below W.heap.size W w') := hide (fun W hW hP => by
          have := implKitchenValid_any A9 c9 r W (hA9 W hW) (by omega) HXR.out hP
          rw [HVR.out, hn] at this
          exact this)
        clear hA9
        have HC1 : Hid (Calls Tryd.prog 38 #[.slice (some ⟨G, 0, none⟩) (n + 1) d] w1 fun e w' => e = .returned (.bool true) ∧ Below w1.heap.size w1 w') := hide (by
          have := implKitchenValid_any _ d _ w1 HT1.out hll HX.out HTP1.out
          rwa [HV.out, hln] at this)
        have HC2 : Hid (∀ W : World, TicksAt W (some ⟨G, 0, none⟩) (x :: r) → Calls Tryd.prog 39 #[.slice (some ⟨G, 0, none⟩) (n + 1) d] W fun e w' => e = .returned (.bool true) ∧ Below W.heap.size W w') := hide (fun W hW => by
          have := specKitchenValid_any _ d _ W hW hll HX.out
          rwa [HV.out, hln] at this)
        have hn0 : (((n + 1 : Nat) : Int) == 0) = false := beq_false_of_ne (by omega)
        rw [hln]
        clear hv hln hn
        go_wp2_with fail
        refine HC1.out.mono ?_
        rintro e w2 ⟨rfl, hB2⟩
        have hb2 := next hb1 hB2
        have HT2 := hide (HT1.out.below hB2)
        go_wp2_with fail
        refine (HC2.out _ HT2.out).mono ?_
        rintro e w3 ⟨rfl, hB3⟩
        have hb3 := next hb2 hB3
        have HT3 := hide (HT2.out.below hB3)
        have HTP3 := hide (hTP.below hb3)
        go_wp2_with fail
        refine (HI0.out _ HT3.out HTP3.out).mono ?_
        rintro e w4 ⟨rfl, hB4⟩
        have hb4 := next hb3 hB4
        have HTP4 := hide (hTP.below hb4)
        go_wp2_with fail
        refine (implKitchenValid_any none 0 [] _ (TicksAt.nil _ _) (by simp) (fun x hx => by simp at hx) HTP4.out).mono ?_
        rintro e w5 ⟨rfl, hB5⟩
        rw [HN.out]
        have hb5 := next hb4 hB5
        go_wp2_with fail
        refine (alive_any _).mono ?_
        rintro e w6 ⟨rfl, hB6⟩
        have hb6 := next hb5 hB6
        go_wp2_with fail
        go_ret
        exact ⟨rfl, hb6⟩
end Go.Proofs.YthmpopdoihlfdaaDoor
