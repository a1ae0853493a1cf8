/- TogetherBest: contracts of the program and of the reference model.
   Conditions: lists have at most 1048576 elements. -/
import Derived.Test.YteocmjffjinphaaDoorCook1
import Derived.Test.YteocmjffjinphaaDoorSortG
import Derived.Test.YteocmjffjinphaaDoorOrders0
import Derived.Test.YteocmjffjinphaaDoorPush
namespace Go.Proofs.YteocmjffjinphaaDoor
open Go.RowKit Go.ChangeShapes Go.WideShapes Go.ChangeAt

def togBestL (xs : List Int) : List Int := if spansOk xs = true then gfL xs else []
theorem togBestL_len (xs : List Int) : (togBestL xs).length ≤ xs.length := by
  unfold togBestL
  split
  · rw [gfL_len]; exact Nat.le_refl _
  · simp

structure SInv (xs : List Int) (span : Int) (k : Nat) (out : List Int) : Prop where
  sorted : out.Pairwise (lexLt (negKey xs))
  mem : ∀ x, x ∈ out ↔ (0 ≤ x ∧ x < xs.length ∧ (span < xs.getD x.toNat 0 ∨ (xs.getD x.toNat 0 = span ∧ x < k)))
theorem val_range {xs : List Int} (h : spansOk xs = true) {x : Int} (h0 : 0 ≤ x) (h1 : x < xs.length) : 0 ≤ xs.getD x.toNat 0 ∧ xs.getD x.toNat 0 ≤ 30 := by
  have hx : x.toNat < xs.length := by omega
  have := spansOk_at h (List.getElem?_eq_getElem hx)
  simpa [hx] using this
theorem SInv.start {xs : List Int} (h : spansOk xs = true) : SInv xs 30 0 [] := ⟨by simp, fun x => by
  constructor
  · intro hx
    simp at hx
  · rintro ⟨h0, h1, h2⟩
    have := val_range h h0 h1
    omega⟩
theorem SInv.skip {xs : List Int} {span : Int} {k : Nat} {out : List Int} (h : SInv xs span k out) (hk : xs.getD k 0 ≠ span) : SInv xs span (k + 1) out := ⟨h.sorted, fun x => by
  rw [h.mem x]
  constructor
  · rintro ⟨h0, h1, h2⟩
    exact ⟨h0, h1, by omega⟩
  · rintro ⟨h0, h1, h2⟩
    refine ⟨h0, h1, ?_⟩
    rcases h2 with h2 | ⟨h2, h3⟩
    · exact .inl h2
    · refine .inr ⟨h2, ?_⟩
      have : x ≠ k := fun e => hk (by rw [← h2, e]; simp)
      omega⟩
theorem SInv.push {xs : List Int} {span : Int} {k : Nat} {out : List Int} (h : SInv xs span k out) (hk : xs.getD k 0 = span) (hkl : k < xs.length) : SInv xs span (k + 1) (out ++ [(k : Int)]) := ⟨by
  rw [List.pairwise_append]
  refine ⟨h.sorted, by simp, fun a ha b hb => ?_⟩
  simp only [List.mem_cons, List.not_mem_nil, or_false] at hb
  subst hb
  have := (h.mem a).1 ha
  unfold lexLt negKey
  rw [show xs.getD ((k : Int)).toNat 0 = span from by simpa using hk]
  omega, fun x => by
  rw [List.mem_append, h.mem x]
  simp only [List.mem_cons, List.not_mem_nil, or_false]
  constructor
  · rintro (⟨h0, h1, h2⟩ | rfl)
    · exact ⟨h0, h1, by omega⟩
    · exact ⟨by omega, by omega, .inr ⟨by simpa using hk, by omega⟩⟩
  · rintro ⟨h0, h1, h2⟩
    by_cases e : x = k
    · exact .inr e
    · refine .inl ⟨h0, h1, ?_⟩
      omega⟩
theorem SInv.down {xs : List Int} {span : Int} {out : List Int} (h : SInv xs span xs.length out) : SInv xs (span - 1) 0 out := ⟨h.sorted, fun x => by
  rw [h.mem x]
  constructor
  · rintro ⟨h0, h1, h2⟩
    exact ⟨h0, h1, by omega⟩
  · rintro ⟨h0, h1, h2⟩
    exact ⟨h0, h1, by omega⟩⟩
theorem SInv.done {xs out : List Int} (hs : spansOk xs = true) (h : SInv xs (-1) 0 out) : out = gfL xs :=
  sortBy_unique h.sorted (fun x => by
    rw [h.mem x]
    constructor
    · rintro ⟨h0, h1, _⟩
      exact ⟨h0, h1⟩
    · rintro ⟨h0, h1⟩
      exact ⟨h0, h1, .inl (by have := val_range hs h0 h1; omega)⟩)
theorem SInv.len {xs : List Int} {span : Int} {k : Nat} {out : List Int} (h : SInv xs span k out) : out.length ≤ xs.length := by
  have hn : out.Nodup := h.sorted.imp (fun hab e => by subst e; exact lexLt_irrefl hab)
  exact nodup_len xs.length out hn (fun x hx => by have := (h.mem x).1 hx; omega)

set_option maxHeartbeats 1000000 in
theorem implTogetherBest_any (A : Addr) (c : Nat) (xs : List Int) (w : World) (hA : IntsAt w (some A) xs) (hl : xs.length ≤ 1048576) (hAn : A.block < w.heap.size) :
    Calls Tryd.prog 32 #[.slice (some A) xs.length c] w fun e w' => ∃ v, e = .returned v ∧ IntSl w' w.heap.size v (togBestL xs) ∧ Below w.heap.size w w' := by
  cases hI : spansOk xs with
  | false =>
    have HI := hide hI
    have H3 : Hid (togBestL xs = []) := hide (by unfold togBestL; rw [hI]; rfl)
    clear hI
    go_enter Tryd.func32, Tryd.ntmps32
    go_wp2_with fail
    refine (implSpansValid_any _ _ _ _ hA hl).mono ?_
    rintro e w1 ⟨rfl, hB1⟩
    rw [HI.out]
    go_wp2_with fail
    refine bodyPost_ret (results_tmp rfl _ _ _) rfl ⟨.slice none 0 0, rfl, by rw [H3.out]; exact World.ownsRow_nil _ _ _ _, hB1⟩
  | true =>
    have HI := hide hI
    have h6 := spansOk_len hI
    have H3 : Hid (togBestL xs = gfL xs) := hide (by unfold togBestL; rw [hI]; rfl)
    have HB : Hid (∀ x ∈ xs, -1000000000000 ≤ x ∧ x ≤ 1000000000000) := hide (fun x hx => by
      obtain ⟨i, hi⟩ := List.getElem?_of_mem hx
      have := spansOk_at hI hi
      omega)
    clear hI
    go_enter Tryd.func32, Tryd.ntmps32
    go_wp2_with fail
    refine (implSpansValid_any _ _ _ _ hA hl).mono ?_
    rintro e w1 ⟨rfl, hB1⟩
    rw [HI.out]
    have hsz1 := hB1.size
    go_wp2_with fail
    refine (greatestFirst_any _ _ _ _ (hA.below hB1) (by omega) HB (fun a ha => by injection ha with ha; subst ha; omega)).mono ?_
    rintro e w2 ⟨B, d, rfl, hS, hB2⟩
    have hb2 := next hB1 hB2
    have hS2 := hS.mono hsz1
    go_wp2_with fail
    refine bodyPost_ret (results_tmp rfl _ _ _) rfl ⟨_, rfl, by rw [H3.out]; exact hS2, hb2⟩

set_option maxRecDepth 100000 in
set_option maxHeartbeats 2000000 in
theorem specTogetherBest_any (A : Option Addr) (c : Nat) (xs : List Int) (w : World) (hA : IntsAt w A xs) (hl : xs.length ≤ 1048576) :
    Calls Tryd.prog 36 #[.slice A xs.length c] w fun e w' => ∃ v, e = .returned v ∧ IntSl w' w.heap.size v (togBestL xs) ∧ Below w.heap.size w w' := by
  have hO0 : IntSl (w.alloc (.cells #[] 3)) w.heap.size (.slice (some ⟨w.heap.size, 0, none⟩) 0 0) [] := World.ownsRow_lit w #[] 0 (Nat.le_refl _) (by unfold maxLen; omega) rfl
  have HO0 := hide hO0
  have hba : Below w.heap.size w (w.alloc (.cells #[] 3)) := by go_grown
  have hA0 := hA.below hba
  clear hO0
  cases hI : spansOk xs with
  | false =>
    have HI := hide hI
    have H3 : Hid (togBestL xs = []) := hide (by unfold togBestL; rw [hI]; rfl)
    have hw0 : ∃ w0, w.alloc (.cells #[] 3) = w0 := ⟨_, rfl⟩
    clear hI
    go_enter Tryd.func36, Tryd.ntmps36
    go_wp2_with fail
    go_loopw [3, 4] (fun ov sv wr => ov = .slice (some ⟨w.heap.size, 0, none⟩) 0 0 ∧ sv = .int .i64 30 ∧ wr = w.alloc (.cells #[] 3)) (fun _ _ _ => 0)
    case atStart => exact ⟨rfl, rfl, rfl⟩
    case round =>
      obtain ⟨rfl, rfl, rfl⟩ := hrel
      go_wp2_with fail
      refine (specSpansValid_any _ _ _ _ hA0 hl).mono ?_
      rintro e w1 ⟨rfl, hB1⟩
      have HP1 := hide (IntSl.below HO0.out hB1)
      have hb1 := next hba hB1
      rw [HI.out]
      go_wp2_with fail
      refine bodyPost_ret (results_tmp rfl _ _ _) rfl ⟨_, rfl, by rw [H3.out]; exact HP1.out, hb1⟩
  | true =>
    have HI := hide hI
    have h6 := spansOk_len hI
    have H3 : Hid (togBestL xs = gfL xs) := hide (by unfold togBestL; rw [hI]; rfl)
    have HST := hide (SInv.start hI)
    clear hI
    go_enter Tryd.func36, Tryd.ntmps36
    go_wp2_with fail
    go_loopw [3, 4] (fun ov sv wr => ∃ (s : Int) (out : List Int), -1 ≤ s ∧ s ≤ 30 ∧ sv = .int .i64 s ∧ Hid (SInv xs s 0 out) ∧ IntSl wr w.heap.size ov out ∧ Below w.heap.size w wr) (fun _ sv _ => (intOf sv + 1).toNat)
    case atStart => exact ⟨30, [], by omega, by omega, rfl, HST, HO0.out, hba⟩
    case round =>
      clear HO0 hba hA0 HST
      obtain ⟨s, out, hs0, hs1, rfl, HV, hS, hb⟩ := hrel
      have hsz := hb.size
      by_cases hsn : 0 ≤ s
      · have hsd : decide (0 ≤ s) = true := decide_eq_true hsn
        go_wp2_with fail
        refine (specSpansValid_any _ _ _ _ (hA.below hb) hl).mono ?_
        rintro e w1 ⟨rfl, hB1⟩
        have HS1 := hide (IntSl.below hS hB1)
        have hb1 := next hb hB1
        rw [HI.out]
        clear hS hb hB1 hsz
        go_wp2_with fail
        go_loopw [3, 5] (fun ov i wr => ∃ (k : Nat) (out : List Int), k ≤ xs.length ∧ i = .int .i64 k ∧ Hid (SInv xs s k out) ∧ IntSl wr w.heap.size ov out ∧ Below w.heap.size w wr) (fun _ i _ => xs.length - (intOf i).toNat)
        case atStart => exact ⟨0, out, Nat.zero_le _, rfl, HV, HS1.out, hb1⟩
        case round =>
          clear HV HS1 hb1
          obtain ⟨k, out, hk, rfl, HV, hS, hb⟩ := hrel
          have hsz := hb.size
          by_cases hlt : k < xs.length
          · obtain ⟨b, off, rfl, hbl, hc1⟩ := (hA.below hb) k xs[k] (List.getElem?_eq_getElem hlt)
            have HX : Hid (xs.getD k 0 = xs[k]) := hide (by simp [hlt])
            generalize xs[k] = v at *
            have hz : (0 : Int) ≤ k := by omega
            have hz2 : (k : Int) < xs.length := by omega
            have hol := HV.out.len
            cases hv : (v == s) with
            | true =>
              have HV2 := hide (HV.out.push (by rw [HX.out]; simpa using hv) hlt)
              have HSA := hide (World.ownsRow.alloc hS (.cells #[.int .i64 k] 3))
              have HBA := hide (hb.alloc hsz (.cells #[.int .i64 k] 3))
              have HLT := hide (World.ownsRow.lt hS)
              clear hS
              go_wp2_with (at_builtin; refine wpList_push_int rfl _ _ rfl w.heap.size u3 out rfl HSA.out wr.heap.size (k : Int) rfl (heap_alloc_new wr _) (by omega) (by simp; omega) ?_; intro g5 cap w5 hown hgrow hnew)
              have hb5 : Below w.heap.size w w5 := HBA.out.grown hgrow (by simp; omega) (fun k hk => (HLT.out k hk).1)
              clear hgrow hnew
              go_wp2_with fail
              go_roundw
              case rel => exact ⟨k + 1, out ++ [(k : Int)], hlt, by go_num, HV2, by simpa using hown, hb5⟩
              case measure => simp [intOf]; omega
            | false =>
              have HV2 := hide (HV.out.skip (by rw [HX.out]; simpa using hv))
              go_wp2_with fail
              go_roundw
              case rel => exact ⟨k + 1, out, hlt, by go_num, HV2, hS, hb⟩
              case measure => simp [intOf]; omega
          · obtain rfl : k = xs.length := by omega
            have HV2 := hide (HV.out.down)
            have hw1 : IntKind.i64.wrap (s - 1) = s - 1 := IntWalk.i64_in _ (by omega)
            go_wp2_with fail
            go_roundw
            case rel => exact ⟨s - 1, out, by omega, by omega, rfl, HV2, hS, hb⟩
            case measure => simp [intOf]; omega
      · obtain rfl : s = -1 := by omega
        have H4 : Hid (togBestL xs = out) := hide (by rw [H3.out, HV.out.done HI.out])
        go_wp2_with fail
        refine bodyPost_ret (results_tmp rfl _ _ _) rfl ⟨_, rfl, by rw [H4.out]; exact hS, hb⟩
end Go.Proofs.YteocmjffjinphaaDoor
