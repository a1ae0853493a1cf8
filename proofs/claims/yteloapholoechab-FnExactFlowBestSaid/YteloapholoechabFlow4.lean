/- FlowBest: how the best order is made of two sorted lists, and the contract of the reference model.
   Conditions: the bounds in each statement. -/
import Derived.Test.YteloapholoechabFlowMath2
import Derived.Test.YteloapholoechabPush
namespace Go.Proofs.Yteloapholoechab
open Go.RowKit Go.ChangeShapes Go.WideShapes Go.ChangeAt

theorem revSort_asc (key : Int → Int) {xs : List Int} (h : xs.Pairwise (· < ·)) : ∀ k, k ≤ xs.length → (revSort key (xs.take k)).Pairwise (fun a b => lexLt key b a) ∧ ∀ x, x ∈ revSort key (xs.take k) ↔ x ∈ xs.take k
  | 0, _ => ⟨by simp [revSort], fun x => by simp [revSort]⟩
  | k + 1, hk => by
    have ih := revSort_asc key h k (by omega)
    have e : xs.take (k + 1) = xs.take k ++ [xs[k]] := by rw [List.take_succ_eq_append_getElem (by omega)]
    have e2 : revSort key (xs.take (k + 1)) = insRev key xs[k] (revSort key (xs.take k)) := by
      rw [e]
      unfold revSort
      rw [List.foldl_append]
      rfl
    rw [e2]
    refine ⟨insRev_sorted ih.1 (fun y hy => ?_), fun x => ?_⟩
    · have hy2 := (ih.2 y).1 hy
      have h2 := h
      rw [← List.take_append_drop k xs, List.drop_eq_getElem_cons (show k < xs.length by omega), List.pairwise_append] at h2
      exact h2.2.2 y hy2 _ (List.mem_cons_self ..)
    · rw [insRev_mem, ih.2 x, e, List.mem_append]
      simp only [List.mem_cons, List.not_mem_nil, or_false]
      exact ⟨fun h => h.symm, fun h => h.symm⟩
theorem isort_asc (key : Int → Int) {xs : List Int} (h : xs.Pairwise (· < ·)) : (isortTo key xs xs.length).Pairwise (lexLt key) ∧ ∀ x, x ∈ isortTo key xs xs.length ↔ x ∈ xs := by
  have := revSort_asc key h xs.length (Nat.le_refl _)
  rw [List.take_length] at this
  rw [isortTo_done, List.pairwise_reverse]
  exact ⟨this.1, fun x => by rw [List.mem_reverse]; exact this.2 x⟩

/-- The first indices of dishes that a test takes. -/
def pickD (P : Dish → Bool) (l : List Dish) : Nat → List Int
  | 0 => []
  | k + 1 => pickD P l k ++ (if P (l.getD k ⟨0, 0⟩) = true then [(k : Int)] else [])
theorem pickD_mem {P : Dish → Bool} {l : List Dish} : ∀ {k : Nat} {x : Int}, x ∈ pickD P l k ↔ 0 ≤ x ∧ x < k ∧ P (l.getD x.toNat ⟨0, 0⟩) = true
  | 0, x => by simp [pickD]; omega
  | k + 1, x => by
    rw [pickD, List.mem_append, pickD_mem (k := k)]
    by_cases e : x = k
    · subst e
      by_cases hp : P (l.getD k ⟨0, 0⟩) = true
      · rw [if_pos hp]
        exact ⟨fun _ => ⟨by omega, by omega, by simpa using hp⟩, fun _ => .inr (by simp)⟩
      · rw [if_neg hp]
        constructor
        · rintro (h | h)
          · exact absurd h.2.1 (by omega)
          · simp at h
        · rintro ⟨_, _, h⟩
          exact absurd (by simpa using h) hp
    · constructor
      · rintro (h | h)
        · exact ⟨h.1, by omega, h.2.2⟩
        · split at h
          · simp at h; exact absurd h e
          · simp at h
      · rintro ⟨h1, h2, h3⟩
        exact .inl ⟨h1, by omega, h3⟩
theorem pickD_asc {P : Dish → Bool} {l : List Dish} : ∀ (k : Nat), (pickD P l k).Pairwise (· < ·)
  | 0 => by simp [pickD]
  | k + 1 => by
    rw [pickD, List.pairwise_append]
    refine ⟨pickD_asc k, by split <;> simp, fun a ha b hb => ?_⟩
    have := (pickD_mem.1 ha).2.1
    split at hb
    · simp at hb; omega
    · simp at hb
theorem pickD_len {P : Dish → Bool} {l : List Dish} : ∀ (k : Nat), (pickD P l k).length ≤ k
  | 0 => by simp [pickD]
  | k + 1 => by
    rw [pickD, List.length_append]
    have := pickD_len (P := P) (l := l) k
    split <;> simp <;> omega
def shortP (x : Dish) : Bool := decide (x.prep < x.cook)
def otherP (x : Dish) : Bool := !(decide (x.prep < x.cook))
def prepKey (l : List Dish) (i : Int) : Int := (dishAt l i).prep
def cookKey (l : List Dish) (i : Int) : Int := -(dishAt l i).cook
theorem flowBest_is {l : List Dish} (h : dishesOk l = true) : isortTo (prepKey l) (pickD shortP l l.length) (pickD shortP l l.length).length ++ isortTo (cookKey l) (pickD otherP l l.length) (pickD otherP l l.length).length = flowBestL l := by
  have a := isort_asc (prepKey l) (pickD_asc (P := shortP) (l := l) l.length)
  have b := isort_asc (cookKey l) (pickD_asc (P := otherP) (l := l) l.length)
  unfold flowBestL
  rw [if_pos h]
  refine sortBy_unique ?_ (fun x => ?_)
  · have sk : ∀ x, x ∈ isortTo (prepKey l) (pickD shortP l l.length) (pickD shortP l l.length).length → flowKey (dishAt l x) = (dishAt l x).prep ∧ (dishAt l x).prep < (dishAt l x).cook := fun x hx => by
      have h1 := (pickD_mem.1 ((a.2 x).1 hx)).2.2
      unfold shortP at h1
      simp only [decide_eq_true_eq] at h1
      have h1 : (dishAt l x).prep < (dishAt l x).cook := h1
      exact ⟨by unfold flowKey; rw [if_pos h1], h1⟩
    have ok : ∀ x, x ∈ isortTo (cookKey l) (pickD otherP l l.length) (pickD otherP l l.length).length → flowKey (dishAt l x) = 100 - (dishAt l x).cook := fun x hx => by
      have h1 := (pickD_mem.1 ((b.2 x).1 hx)).2.2
      unfold otherP at h1
      simp only [Bool.not_eq_true', decide_eq_false_iff_not] at h1
      have h1 : ¬ (dishAt l x).prep < (dishAt l x).cook := h1
      unfold flowKey; rw [if_neg h1]
    rw [List.pairwise_append]
    refine ⟨a.1.imp_of_mem (fun {x y} hx hy hxy => ?_), b.1.imp_of_mem (fun {x y} hx hy hxy => ?_), fun x hx y hy => ?_⟩
    · have h1 := (sk x hx).1
      have h2 := (sk y hy).1
      unfold lexLt prepKey at hxy
      show flowKey (dishAt l x) < flowKey (dishAt l y) ∨ (flowKey (dishAt l x) = flowKey (dishAt l y) ∧ x < y)
      omega
    · have h1 := ok x hx
      have h2 := ok y hy
      unfold lexLt cookKey at hxy
      show flowKey (dishAt l x) < flowKey (dishAt l y) ∨ (flowKey (dishAt l x) = flowKey (dishAt l y) ∧ x < y)
      omega
    · have h1 := sk x hx
      have h2 := ok y hy
      have r1 := dishAt_ok h x
      have r2 := dishAt_ok h y
      show flowKey (dishAt l x) < flowKey (dishAt l y) ∨ (flowKey (dishAt l x) = flowKey (dishAt l y) ∧ x < y)
      omega
  · rw [List.mem_append, a.2 x, b.2 x, pickD_mem, pickD_mem]
    unfold shortP otherP
    cases decide ((l.getD x.toNat ⟨0, 0⟩).prep < (l.getD x.toNat ⟨0, 0⟩).cook) <;> simp
theorem flowBestL_len (l : List Dish) : (flowBestL l).length ≤ l.length := by
  unfold flowBestL
  split
  · rw [sortBy_len]; exact Nat.le_refl _
  · simp

/-- What the reference model's two loops know: all with a lesser key, and the first ones with this key. -/
structure FInv (l : List Dish) (B : Int) (k : Nat) (out : List Int) : Prop where
  sorted : out.Pairwise (lexLt (fun i => flowKey (dishAt l i)))
  mem : ∀ x, x ∈ out ↔ (0 ≤ x ∧ x < l.length ∧ (flowKey (dishAt l x) < B ∨ (flowKey (dishAt l x) = B ∧ x < k)))
theorem key_range {l : List Dish} (h : dishesOk l = true) (x : Int) : 0 ≤ flowKey (dishAt l x) ∧ flowKey (dishAt l x) ≤ 100 ∧ (flowKey (dishAt l x) < 30 ∨ 70 ≤ flowKey (dishAt l x)) := by
  have := dishAt_ok h x
  unfold flowKey
  split <;> omega
theorem FInv.start {l : List Dish} (h : dishesOk l = true) : FInv l 0 0 [] := ⟨by simp, fun x => by
  have := key_range h x
  constructor
  · intro hx; simp at hx
  · rintro ⟨h0, h1, h2⟩; omega⟩
theorem FInv.skip {l : List Dish} {B : Int} {k : Nat} {out : List Int} (h : FInv l B k out) (hk : flowKey (dishAt l k) ≠ B) : FInv l B (k + 1) out := ⟨h.sorted, fun x => by
  rw [h.mem x]
  constructor
  · rintro ⟨h0, h1, h2⟩
    exact ⟨h0, h1, by omega⟩
  · rintro ⟨h0, h1, h2⟩
    refine ⟨h0, h1, ?_⟩
    rcases h2 with h2 | ⟨h2, h3⟩
    · exact .inl h2
    · refine .inr ⟨h2, ?_⟩
      have : x ≠ k := fun e => hk (by rw [← h2, e])
      omega⟩
theorem FInv.push {l : List Dish} {B : Int} {k : Nat} {out : List Int} (h : FInv l B k out) (hk : flowKey (dishAt l k) = B) (hkl : k < l.length) : FInv l B (k + 1) (out ++ [(k : Int)]) := ⟨by
  rw [List.pairwise_append]
  refine ⟨h.sorted, by simp, fun a ha b hb => ?_⟩
  simp only [List.mem_cons, List.not_mem_nil, or_false] at hb
  subst hb
  have := (h.mem a).1 ha
  show flowKey (dishAt l a) < flowKey (dishAt l k) ∨ (flowKey (dishAt l a) = flowKey (dishAt l k) ∧ a < k)
  rw [hk]
  omega, fun x => by
  rw [List.mem_append, h.mem x]
  simp only [List.mem_cons, List.not_mem_nil, or_false]
  constructor
  · rintro (⟨h0, h1, h2⟩ | rfl)
    · exact ⟨h0, h1, by omega⟩
    · exact ⟨by omega, by omega, .inr ⟨hk, by omega⟩⟩
  · rintro ⟨h0, h1, h2⟩
    by_cases e : x = k
    · exact .inr e
    · refine .inl ⟨h0, h1, ?_⟩
      omega⟩
theorem FInv.up {l : List Dish} {B : Int} {out : List Int} (h : FInv l B l.length out) : FInv l (B + 1) 0 out := ⟨h.sorted, fun x => by
  rw [h.mem x]
  constructor
  · rintro ⟨h0, h1, h2⟩
    exact ⟨h0, h1, by omega⟩
  · rintro ⟨h0, h1, h2⟩
    exact ⟨h0, h1, by omega⟩⟩
theorem FInv.jump {l : List Dish} (hD : dishesOk l = true) {out : List Int} (h : FInv l 31 0 out) : FInv l 70 0 out := ⟨h.sorted, fun x => by
  have := key_range hD x
  rw [h.mem x]
  constructor
  · rintro ⟨h0, h1, h2⟩
    exact ⟨h0, h1, by omega⟩
  · rintro ⟨h0, h1, h2⟩
    exact ⟨h0, h1, by omega⟩⟩
theorem FInv.done {l : List Dish} (hD : dishesOk l = true) {out : List Int} (h : FInv l 101 0 out) : out = flowBestL l := by
  unfold flowBestL
  rw [if_pos hD]
  exact sortBy_unique h.sorted (fun x => by
    have := key_range hD x
    rw [h.mem x]
    constructor
    · rintro ⟨h0, h1, _⟩
      exact ⟨h0, h1⟩
    · rintro ⟨h0, h1⟩
      exact ⟨h0, h1, .inl (by omega)⟩)
theorem FInv.len {l : List Dish} {B : Int} {k : Nat} {out : List Int} (h : FInv l B k out) : out.length ≤ l.length := by
  have hn : out.Nodup := h.sorted.imp (fun hab e => by subst e; exact lexLt_irrefl hab)
  exact nodup_len l.length out hn (fun x hx => by have := (h.mem x).1 hx; omega)

set_option maxRecDepth 100000 in
set_option maxHeartbeats 4000000 in
theorem specFlowBest_any (A : Option Addr) (c : Nat) (l : List Dish) (w : World) (hA : DishesAt w A l) (hl : l.length ≤ 1048576) :
    Calls Try.prog 9 #[.slice A l.length c] w fun e w' => ∃ v, e = .returned v ∧ IntSl w' w.heap.size v (flowBestL l) ∧ Below w.heap.size w w' := by
  have hO0 : IntSl (w.alloc (.cells #[] 3)) w.heap.size (.slice (some ⟨w.heap.size, 0, none⟩) 0 0) [] := World.ownsRow_lit w #[] 0 (Nat.le_refl _) (by unfold maxLen; omega) rfl
  have HO0 := hide hO0
  have hba : Below w.heap.size w (w.alloc (.cells #[] 3)) := by go_grown
  have hA0 := hA.below hba
  clear hO0
  cases hI : dishesOk l with
  | false =>
    have HI := hide hI
    have H3 : Hid (flowBestL l = []) := hide (by unfold flowBestL; rw [hI]; rfl)
    clear hI
    go_enter Try.func9, Try.ntmps9
    go_wp2_with fail
    go_loopw [3, 4] (fun ov sv wr => ov = .slice (some ⟨w.heap.size, 0, none⟩) 0 0 ∧ sv = .int .i64 0 ∧ wr = w.alloc (.cells #[] 3)) (fun _ _ _ => 0)
    case atStart => exact ⟨rfl, rfl, rfl⟩
    case round =>
      obtain ⟨rfl, rfl, rfl⟩ := hrel
      go_wp2_with fail
      refine (specDishesValid_any _ _ _ _ hA0 hl).mono ?_
      rintro e w1 ⟨rfl, hB1⟩
      have HP1 := hide (IntSl.below HO0.out hB1)
      have hb1 := next hba hB1
      have HA1 := hide (hA.below hb1)
      rw [HI.out]
      clear hA0 hba
      go_wp2_with fail
      go_loopw [3, 6] (fun ov sv wr => ov = .slice (some ⟨w.heap.size, 0, none⟩) 0 0 ∧ sv = .int .i64 30 ∧ wr = w1) (fun _ _ _ => 0)
      case atStart => exact ⟨rfl, rfl, rfl⟩
      case round =>
        obtain ⟨rfl, rfl, rfl⟩ := hrel
        go_wp2_with fail
        refine (specDishesValid_any _ _ _ _ HA1.out hl).mono ?_
        rintro e w2 ⟨rfl, hB2⟩
        have HP2 := hide (IntSl.below HP1.out hB2)
        have hb2 := next hb1 hB2
        rw [HI.out]
        go_wp2_with fail
        refine bodyPost_ret (results_tmp rfl _ _ _) rfl ⟨_, rfl, by rw [H3.out]; exact HP2.out, hb2⟩
  | true =>
    have HI := hide hI
    have h6 := dishesOk_len hI
    have HST := hide (FInv.start hI)
    clear hI
    go_enter Try.func9, Try.ntmps9
    go_wp2_with fail
    go_loopw [3, 4] (fun ov sv wr => ∃ (s : Int) (out : List Int), 0 ≤ s ∧ s ≤ 31 ∧ sv = .int .i64 s ∧ Hid (FInv l s 0 out) ∧ IntSl wr w.heap.size ov out ∧ Below w.heap.size w wr) (fun _ sv _ => (31 - intOf sv).toNat)
    case atStart => exact ⟨0, [], by omega, by omega, rfl, HST, HO0.out, hba⟩
    case round =>
      clear HO0 hba hA0 HST
      obtain ⟨s, out, hs0, hs1, rfl, HV, hS, hb⟩ := hrel
      have hsz := hb.size
      by_cases hsn : s ≤ 30
      · have hsd : decide (s ≤ 30) = true := decide_eq_true hsn
        go_wp2_with fail
        refine (specDishesValid_any _ _ _ _ (hA.below hb) hl).mono ?_
        rintro e w1 ⟨rfl, hB1⟩
        have HS1 := hide (IntSl.below hS hB1)
        have hb1 := next hb hB1
        rw [HI.out]
        clear hS hb hB1 hsz
        go_wp2_with fail
        go_loopw [3, 5] (fun ov i wr => ∃ (k : Nat) (out : List Int), k ≤ l.length ∧ i = .int .i64 k ∧ Hid (FInv l s k out) ∧ IntSl wr w.heap.size ov out ∧ Below w.heap.size w wr) (fun _ i _ => l.length - (intOf i).toNat)
        case atStart => exact ⟨0, out, Nat.zero_le _, rfl, HV, HS1.out, hb1⟩
        case round =>
          clear HV HS1 hb1
          obtain ⟨k, out, hk, rfl, HV, hS, hb⟩ := hrel
          have hsz := hb.size
          by_cases hlt : k < l.length
          · obtain ⟨b, off, rfl, hbl, hc1, hc2⟩ := (hA.below hb) k l[k] (List.getElem?_eq_getElem hlt)
            have HX : Hid (dishAt l k = l[k]) := hide (by unfold dishAt; simp [hlt])
            have hxr := dishesOk_at HI.out (List.getElem_mem hlt)
            generalize l[k] = x at *
            obtain ⟨xp, xc⟩ := x
            simp only at hc1 hc2 hxr
            have hz : (0 : Int) ≤ k := by omega
            have hz2 : (k : Int) < l.length := by omega
            have hol := HV.out.len
            by_cases hpc : xp < xc
            · have hpd : decide (xp < xc) = true := decide_eq_true hpc
              cases hv : (xp == s) with
              | true =>
                have HV2 := hide (HV.out.push (by rw [HX.out, flowKey, if_pos hpc]; simpa using hv) hlt)
                have HS := hide hS
                have HB := hide hb
                clear hS hb
                go_wp2_with fail
                go_quiet (fail)
                obtain ⟨w2, hw2⟩ : ∃ w2, wr.drewN nq = w2 := ⟨_, rfl⟩
                have hS2 : IntSl w2 w.heap.size u3 out := by rw [← hw2]; exact HS.out
                have hb2 : Below w.heap.size w w2 := by rw [← hw2]; exact below_drewN HB.out _
                rw [hw2]
                have hsz2 := hb2.size
                have HSA := hide (World.ownsRow.alloc hS2 (.cells #[.int .i64 k] 3))
                have HBA := hide (hb2.alloc hsz2 (.cells #[.int .i64 k] 3))
                have HLT := hide (World.ownsRow.lt hS2)
                clear hS2 hw2
                go_wp2_with (at_builtin; refine wpList_push_int rfl _ _ rfl w.heap.size u3 out rfl HSA.out w2.heap.size (k : Int) rfl (heap_alloc_new w2 _) (by omega) (by simp; omega) ?_; intro g5 cap w5 hown hgrow hnew)
                have hb5 : Below w.heap.size w w5 := HBA.out.grown hgrow (by simp; omega) (fun k hk => (HLT.out k hk).1)
                clear hgrow hnew
                go_wp2_with fail
                go_roundw
                case rel => exact ⟨k + 1, out ++ [(k : Int)], hlt, by go_num, HV2, by simpa using hown, hb5⟩
                case measure => simp [intOf]; omega
              | false =>
                have HV2 := hide (HV.out.skip (by rw [HX.out, flowKey, if_pos hpc]; simpa using hv))
                go_wp2_with fail
                go_quiet (fail)
                go_wp2_with fail
                go_roundw
                case rel => exact ⟨k + 1, out, hlt, by go_num, HV2, hS, below_drewN hb _⟩
                case measure => simp [intOf]; omega
            · have hpd : decide (xp < xc) = false := decide_eq_false hpc
              have HV2 := hide (HV.out.skip (by
                rw [HX.out, flowKey, if_neg hpc]
                show 100 - xc ≠ s
                omega))
              go_wp2_with fail
              go_quiet (fail)
              go_wp2_with fail
              go_roundw
              case rel => exact ⟨k + 1, out, hlt, by go_num, HV2, hS, below_drewN hb _⟩
              case measure => simp [intOf]; omega
          · obtain rfl : k = l.length := by omega
            have HV2 := hide (HV.out.up)
            have hw1 : IntKind.i64.wrap (s + 1) = s + 1 := IntWalk.i64_in _ (by omega)
            go_wp2_with fail
            go_roundw
            case rel => exact ⟨s + 1, out, by omega, by omega, rfl, HV2, hS, hb⟩
            case measure => simp [intOf]; omega
      · obtain rfl : s = 31 := by omega
        have HV0 := hide (HV.out.jump HI.out)
        have HS := hide hS
        clear hS HV
        go_wp2_with fail
        go_loopw [3, 6] (fun ov sv wr => ∃ (s : Int) (out : List Int), -1 ≤ s ∧ s ≤ 30 ∧ sv = .int .i64 s ∧ Hid (FInv l (100 - s) 0 out) ∧ IntSl wr w.heap.size ov out ∧ Below w.heap.size w wr) (fun _ sv _ => (intOf sv + 1).toNat)
        case atStart => exact ⟨30, out, by omega, by omega, rfl, HV0, HS.out, hb⟩
        case round =>
          clear HV0 HS hb hsz
          obtain ⟨s, out, hs0, hs1, rfl, HV, hS, hb⟩ := hrel
          have hsz := hb.size
          by_cases hsn : 0 ≤ s
          · have hsd : decide (0 ≤ s) = true := decide_eq_true hsn
            go_wp2_with fail
            refine (specDishesValid_any _ _ _ _ (hA.below hb) hl).mono ?_
            rintro e w1 ⟨rfl, hB1⟩
            have HS1 := hide (IntSl.below hS hB1)
            have hb1 := next hb hB1
            rw [HI.out]
            clear hS hb hB1 hsz
            go_wp2_with fail
            go_loopw [3, 7] (fun ov i wr => ∃ (k : Nat) (out : List Int), k ≤ l.length ∧ i = .int .i64 k ∧ Hid (FInv l (100 - s) k out) ∧ IntSl wr w.heap.size ov out ∧ Below w.heap.size w wr) (fun _ i _ => l.length - (intOf i).toNat)
            case atStart => exact ⟨0, out, Nat.zero_le _, rfl, HV, HS1.out, hb1⟩
            case round =>
              clear HV HS1 hb1
              obtain ⟨k, out, hk, rfl, HV, hS, hb⟩ := hrel
              have hsz := hb.size
              by_cases hlt : k < l.length
              · obtain ⟨b, off, rfl, hbl, hc1, hc2⟩ := (hA.below hb) k l[k] (List.getElem?_eq_getElem hlt)
                have HX : Hid (dishAt l k = l[k]) := hide (by unfold dishAt; simp [hlt])
                have hxr := dishesOk_at HI.out (List.getElem_mem hlt)
                generalize l[k] = x at *
                obtain ⟨xp, xc⟩ := x
                simp only at hc1 hc2 hxr
                have hz : (0 : Int) ≤ k := by omega
                have hz2 : (k : Int) < l.length := by omega
                have hol := HV.out.len
                by_cases hpc : xc ≤ xp
                · have hpd : decide (xc ≤ xp) = true := decide_eq_true hpc
                  have HK : Hid (flowKey (dishAt l k) = 100 - xc) := hide (by
                    rw [HX.out, flowKey, if_neg (by show ¬ xp < xc; omega)])
                  cases hv : (xc == s) with
                  | true =>
                    have HV2 := hide (HV.out.push (by have : xc = s := (by simpa using hv); rw [HK.out, this]) hlt)
                    have HS := hide hS
                    have HB := hide hb
                    clear hS hb
                    go_wp2_with fail
                    go_quiet (fail)
                    obtain ⟨w2, hw2⟩ : ∃ w2, wr.drewN nq = w2 := ⟨_, rfl⟩
                    have hS2 : IntSl w2 w.heap.size u3 out := by rw [← hw2]; exact HS.out
                    have hb2 : Below w.heap.size w w2 := by rw [← hw2]; exact below_drewN HB.out _
                    rw [hw2]
                    have hsz2 := hb2.size
                    have HSA := hide (World.ownsRow.alloc hS2 (.cells #[.int .i64 k] 3))
                    have HBA := hide (hb2.alloc hsz2 (.cells #[.int .i64 k] 3))
                    have HLT := hide (World.ownsRow.lt hS2)
                    clear hS2 hw2
                    go_wp2_with (at_builtin; refine wpList_push_int rfl _ _ rfl w.heap.size u3 out rfl HSA.out w2.heap.size (k : Int) rfl (heap_alloc_new w2 _) (by omega) (by simp; omega) ?_; intro g5 cap w5 hown hgrow hnew)
                    have hb5 : Below w.heap.size w w5 := HBA.out.grown hgrow (by simp; omega) (fun k hk => (HLT.out k hk).1)
                    clear hgrow hnew
                    go_wp2_with fail
                    go_roundw
                    case rel => exact ⟨k + 1, out ++ [(k : Int)], hlt, by go_num, HV2, by simpa using hown, hb5⟩
                    case measure => simp [intOf]; omega
                  | false =>
                    have HV2 := hide (HV.out.skip (by have : ¬ xc = s := (by simpa using hv); rw [HK.out]; omega))
                    go_wp2_with fail
                    go_quiet (fail)
                    go_wp2_with fail
                    go_roundw
                    case rel => exact ⟨k + 1, out, hlt, by go_num, HV2, hS, below_drewN hb _⟩
                    case measure => simp [intOf]; omega
                · have hpd : decide (xc ≤ xp) = false := decide_eq_false hpc
                  have HV2 := hide (HV.out.skip (by
                    rw [HX.out, flowKey, if_pos (by show xp < xc; omega)]
                    show xp ≠ 100 - s
                    omega))
                  go_wp2_with fail
                  go_quiet (fail)
                  go_wp2_with fail
                  go_roundw
                  case rel => exact ⟨k + 1, out, hlt, by go_num, HV2, hS, below_drewN hb _⟩
                  case measure => simp [intOf]; omega
              · obtain rfl : k = l.length := by omega
                have HV2 : Hid (FInv l (100 - (s - 1)) 0 out) := hide (by
                  have := HV.out.up
                  rwa [show 100 - s + 1 = 100 - (s - 1) from by omega] at this)
                have hw1 : IntKind.i64.wrap (s - 1) = s - 1 := IntWalk.i64_in _ (by omega)
                go_wp2_with fail
                go_roundw
                case rel => exact ⟨s - 1, out, by omega, by omega, rfl, HV2, hS, hb⟩
                case measure => simp [intOf]; omega
          · obtain rfl : s = -1 := by omega
            have H4 : Hid (flowBestL l = out) := hide (by
              have := HV.out
              rw [show (100 : Int) - -1 = 101 from rfl] at this
              rw [this.done HI.out])
            go_wp2_with fail
            refine bodyPost_ret (results_tmp rfl _ _ _) rfl ⟨_, rfl, by rw [H4.out]; exact hS, hb⟩
end Go.Proofs.Yteloapholoechab
