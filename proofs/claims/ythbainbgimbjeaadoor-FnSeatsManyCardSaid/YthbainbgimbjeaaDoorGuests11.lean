/- Guests11: contracts of SeatsFirst, of the program and of the reference model.
   Conditions: lists have at most 1048576 elements. -/
import Derived.Test.YthbainbgimbjeaaDoorZ2
import Derived.Test.YthbainbgimbjeaaDoorZ4
import Derived.Deep.LoopGhost
namespace Go.Proofs.YthbainbgimbjeaaDoor
open Go.RowKit Go.ChangeShapes Go.WideShapes Go.ChangeAt Go.Deep

theorem sf_no {g : Int} {q : List Int} (h : quarOk g q = false) : seatsFirstL g q = [] := by unfold seatsFirstL; rw [h]; rfl
theorem clash_here {q : List Int} {u : Int} {k t b : Nat} (hb : b < k) (h1 : (seatsTo q k).getD b 0 = (t : Int)) (h2 : hasB u b = true) : clash u (seatsTo q k) t = true :=
  clash_iff.2 ⟨b, by rw [seatsTo_len]; exact hb, h1, h2⟩

set_option maxRecDepth 100000 in
set_option maxHeartbeats 4000000 in
theorem specSeatsFirst_any (g : Int) (A : Option Addr) (c : Nat) (q : List Int) (w : World) (hA : IntsAt w A q) (hl : q.length ≤ 1048576) :
    Calls Tryd.prog 61 #[.int .i64 g, .slice A q.length c] w fun e w' => ∃ v, e = .returned v ∧ IntSl w' w.heap.size v (seatsFirstL g q) ∧ Below w.heap.size w w' := by
  have HO0 : Hid (IntSl (w.alloc (.cells #[] 3)) w.heap.size (.slice (some ⟨w.heap.size, 0, none⟩) 0 0) []) := hide (World.ownsRow_lit w #[] 0 (Nat.le_refl _) (by unfold maxLen; omega) rfl)
  have HBA0 : Hid (Below w.heap.size w (w.alloc (.cells #[] 3))) := hide (by go_grown)
  cases hQ : quarOk g q with
  | false =>
    have HQ := hide hQ
    have HR := hide (sf_no hQ)
    clear hQ
    by_cases hg0 : 0 < g
    · go_enter Tryd.func61, Tryd.ntmps61
      go_wp2_with fail
      go_loopw [5, 6] (fun ov iv wr => ov = .slice (some ⟨w.heap.size, 0, none⟩) 0 0 ∧ iv = .int .i64 0 ∧ wr = w.alloc (.cells #[] 3)) (fun _ _ _ => 0)
      case atStart => exact ⟨rfl, rfl, rfl⟩
      case round =>
        obtain ⟨rfl, rfl, rfl⟩ := hrel
        go_wp2_with fail
        refine (specQuarrelsValid_any _ _ _ _ _ (hA.below HBA0.out) hl).mono ?_
        rintro e w1 ⟨rfl, hB1⟩
        rw [HQ.out]
        have HP1 := hide (IntSl.below HO0.out hB1)
        have hb1 := next HBA0.out hB1
        go_wp2_with fail
        refine bodyPost_ret (results_tmp rfl _ _ _) rfl ⟨_, rfl, by rw [HR.out]; exact HP1.out, hb1⟩
    · go_enter Tryd.func61, Tryd.ntmps61
      go_wp2_with fail
      go_loopw [5, 6] (fun ov iv wr => ov = .slice (some ⟨w.heap.size, 0, none⟩) 0 0 ∧ iv = .int .i64 0 ∧ wr = w.alloc (.cells #[] 3)) (fun _ _ _ => 0)
      case atStart => exact ⟨rfl, rfl, rfl⟩
      case round =>
        obtain ⟨rfl, rfl, rfl⟩ := hrel
        go_wp2_with fail
        refine bodyPost_ret (results_tmp rfl _ _ _) rfl ⟨_, rfl, by rw [HR.out]; exact HO0.out, HBA0.out⟩
  | true =>
    have HQ := hide hQ
    have hg := quarOk_g hQ
    have h0 := hg.1
    have h1 := hg.2.1
    have HX : Hid (∀ x ∈ q, 0 ≤ x ∧ x < 64) := hide (fun x hx => ⟨(quarOk_at hQ hx).1, (quarOk_at hQ hx).2.2⟩)
    obtain ⟨n, hn⟩ : ∃ n : Nat, n = q.length := ⟨_, rfl⟩
    obtain rfl : g = n := by omega
    have hnq1 : n ≤ q.length := by omega
    have hnq2 : q.length ≤ n := by omega
    have HR : Hid (seatsFirstL n q = seatsTo q n) := hide (by unfold seatsFirstL; rw [if_pos hQ, ← hn])
    clear hn hg hQ
    go_enter Tryd.func61, Tryd.ntmps61
    go_wp2_with fail
    go_loopw [5, 6] (fun ov iv wr => ∃ k : Nat, k ≤ n ∧ iv = .int .i64 k ∧ IntSl wr w.heap.size ov (seatsTo q k) ∧ Below w.heap.size w wr) (fun _ iv _ => n - (intOf iv).toNat)
    case atStart => exact ⟨0, Nat.zero_le _, rfl, HO0.out, HBA0.out⟩
    case round =>
      clear HO0 HBA0
      obtain ⟨k, hk, rfl, hS, hb⟩ := hrel
      have hsz := hb.size
      by_cases hlt : k < n
      · have hkq : k < q.length := by omega
        have HUE : Hid (q[k]? = some q[k]) := hide (List.getElem?_eq_getElem hkq)
        have HUD : Hid (q.getD k 0 = q[k]) := hide (by simp [hkq])
        have hu := HX.out q[k] (List.getElem_mem hkq)
        generalize q[k] = u at *
        have hz : (0 : Int) ≤ k := by omega
        have hz2 : (k : Int) < n := by omega
        have hz3 : (k : Int) < q.length := by omega
        have hu0 : 0 ≤ u := hu.1
        have hu1 : u < 64 := hu.2
        obtain ⟨bA, offA, rfl, hbl, -⟩ := hA k u HUE.out
        obtain ⟨Ao, co, hv, -, -⟩ := hS.form
        have hsl := seatsTo_len q k
        rw [hsl] at hv
        subst hv
        have HS := hide hS
        have HSL := hide hsl
        clear hS hu hsl
        go_wp2_with fail
        refine (specQuarrelsValid_any _ _ _ _ _ (hA.below hb) hl).mono ?_
        rintro e w1 ⟨rfl, hB1⟩
        rw [HQ.out]
        have HS1 := hide (IntSl.below HS.out hB1)
        have hb1 := next hb hB1
        clear HS hb hB1
        go_wp2_with fail
        go_loopw [7, 8] (fun tv bv wr => ∃ (t b : Nat), t ≤ k ∧ b ≤ k ∧ tv = .int .i64 t ∧ bv = .int .i64 b ∧ Hid (∀ i : Nat, i < t → clash u (seatsTo q k) i = true) ∧ Hid (∀ i : Nat, i < b → ¬ ((seatsTo q k).getD i 0 = (t : Int) ∧ hasB u i = true)) ∧ IntSl wr w.heap.size (.slice Ao k co) (seatsTo q k) ∧ Below w.heap.size w wr) (fun tv bv _ => ((7 - intOf tv) * 8 + (8 - intOf bv)).toNat)
        case atStart => exact ⟨0, 0, Nat.zero_le _, Nat.zero_le _, rfl, rfl, hide (fun i hi => by omega), hide (fun i hi => by omega), HS1.out, hb1⟩
        case round =>
          clear HS1 hb1 hsz
          obtain ⟨t, b, ht, hbk, rfl, rfl, HT, HB, hS, hb⟩ := hrel
          have hsz := hb.size
          have hcu := (hA.below hb).cellOf HUE.out
          by_cases hbl2 : b < k
          · obtain ⟨y, HY⟩ : ∃ y, Hid ((seatsTo q k)[b]? = some y) := ⟨_, hide (List.getElem?_eq_getElem (by rw [HSL.out]; exact hbl2))⟩
            have HYD : Hid ((seatsTo q k).getD b 0 = y) := hide (getD_at HY.out)
            obtain ⟨bo, offo, rfl, hblo, hcy⟩ := hS.ints b y HY.out
            have hd := div_range u b hu0 hu1
            have hb0 : (0 : Int) ≤ b := by omega
            have hb1 : (b : Int) < k := by omega
            have HS := hide hS
            clear hS
            have HNX : ¬ (y = (t : Int) ∧ hasB u b = true) → Hid (∀ i : Nat, i < b + 1 → ¬ ((seatsTo q k).getD i 0 = (t : Int) ∧ hasB u i = true)) := fun h => hide (fun i hi => by
              by_cases e : i = b
              · subst e; rw [HYD.out]; exact h
              · exact HB.out i (by omega))
            cases hyt : (y == (t : Int)) with
            | false =>
              have H3 := HNX (fun h => by rw [h.1] at hyt; simp at hyt)
              clear HNX
              go_wp2_with fail
              go_roundw
              case rel => exact ⟨t, b + 1, ht, hbl2, rfl, by go_num, HT, H3, HS.out, hb⟩
              case measure => simp [intOf]; omega
            | true =>
              cases hh : hasB u b with
              | false =>
                have hf : (u / 2 ^ b % 2 == 1) = false := hh
                have H3 := HNX (fun h => by rw [hh] at h; exact absurd h.2 (by decide))
                clear HNX hh
                go_wp2_with fail
                go_roundw
                case rel => exact ⟨t, b + 1, ht, hbl2, rfl, by go_num, HT, H3, HS.out, hb⟩
                case measure => simp [intOf]; omega
              | true =>
                have hf : (u / 2 ^ b % 2 == 1) = true := hh
                have hc : clash u (seatsTo q k) t = true := clash_here hbl2 (by rw [HYD.out]; simpa using hyt) hh
                have htk : t < k := by
                  by_cases e : t = k
                  · subst e
                    have := clash_end q u t
                    rw [hc] at this
                    exact absurd this (by decide)
                  · omega
                have H3 : Hid (∀ i : Nat, i < t + 1 → clash u (seatsTo q k) i = true) := hide (fun i hi => by
                  by_cases e : i = t
                  · subst e; exact hc
                  · exact HT.out i (by omega))
                have H4 : Hid (∀ i : Nat, i < 0 → ¬ ((seatsTo q k).getD i 0 = ((t + 1 : Nat) : Int) ∧ hasB u i = true)) := hide (fun i hi => by omega)
                clear HNX hh hc
                go_wp2_with fail
                go_roundw
                case rel => exact ⟨t + 1, 0, htk, Nat.zero_le _, by go_num, rfl, H3, H4, HS.out, hb⟩
                case measure => simp [intOf]; omega
          · obtain rfl : b = k := by omega
            have HTB : Hid (tableOf (q.getD b 0) (seatsTo q b) = t) := hide (by
              rw [HUD.out]
              refine tableOf_of ht HT.out ?_
              cases hc : clash u (seatsTo q b) t with
              | false => rfl
              | true =>
                obtain ⟨i, hi, h2, h3⟩ := clash_iff.1 hc
                rw [seatsTo_len] at hi
                exact absurd ⟨h2, h3⟩ (HB.out i hi))
            have HE : Hid (seatsTo q b ++ [(t : Int)] = seatsTo q (b + 1)) := hide (by rw [seatsTo, HTB.out])
            have hlen : (seatsTo q b).length ≤ 6 := by rw [HSL.out]; omega
            have hSr : IntSl wr w.heap.size (.slice Ao (seatsTo q b).length co) (seatsTo q b) := by rw [HSL.out]; exact hS
            have HSA := hide (World.ownsRow.alloc hS (.cells #[.int .i64 t] 3))
            have HBA := hide (hb.alloc hsz (.cells #[.int .i64 t] 3))
            have HLT := hide (World.ownsRow.lt hS)
            clear hS hSr
            go_wp2_with (at_builtin; refine wpList_push_int rfl _ _ rfl w.heap.size (.slice Ao b co) (seatsTo q b) rfl HSA.out wr.heap.size (t : Int) rfl (heap_alloc_new wr _) (by omega) (by simp; omega) ?_; intro g5 cap w5 hown hgrow hnew)
            have hb5 : Below w.heap.size w w5 := HBA.out.grown hgrow (by simp; omega) (fun k hk => (HLT.out k hk).1)
            rw [HE.out] at hown
            clear hgrow hnew
            go_wp2_with fail
            go_roundw
            case rel => exact ⟨b + 1, hlt, by go_num, hown, hb5⟩
            case measure => simp [intOf]; omega
      · obtain rfl : k = n := by omega
        have HS := hide hS
        clear hS
        go_wp2_with fail
        refine bodyPost_ret (results_tmp rfl _ _ _) rfl ⟨_, rfl, by rw [HR.out]; exact HS.out, hb⟩
end Go.Proofs.YthbainbgimbjeaaDoor
