/- For all drawn bytes the law of ItemsValid answers true, and its argument reads as it did.
   Conditions: none. -/
import Derived.Test.YtljphnikapddpaaDoorLawKit
import Derived.Test.YtljphnikapddpaaDoorItemCopy
namespace Go.Proofs.YtljphnikapddpaaDoor
open Go.RowKit Go.ChangeShapes Go.WideShapes Go.ChangeAt Go.Deep

theorem implItemsValid_at (A : Option Addr) (c n : Nat) (l : List Item) (b : Bool) (w : World) (hn : l.length = n) (hb : Hid (itemsOk l = b)) (hA : ItemsAt w A l) (hl : n ≤ 1048576) (hp : ∀ x ∈ l, x.parts.length ≤ 1048576) :
    Calls Tryd.prog 10 #[.slice A n c] w fun e w' => e = .returned (.bool b) ∧ Below w.heap.size w w' := by
  subst hn
  have := implItemsValid_any A c l w hA hl hp
  rwa [hb.out] at this
theorem ItemsAt.takeI {w : World} {A : Option Addr} {l : List Item} (h : ItemsAt w A l) (m : Nat) : ItemsAt w A (l.take m) := fun i x hx => by
  rw [List.getElem?_take] at hx
  split at hx
  · exact h i x hx
  · cases hx
theorem ItemSl.itemsAt {w : World} {lo n c : Nat} {A : Option Addr} {l : List Item} (h : ItemSl w lo (.slice A n c) l) : ItemsAt w A l := by
  obtain ⟨A', c', e, hA⟩ := h.form
  injection e with e1
  subst e1
  exact hA
theorem itemsGo_take : ∀ {l : List Item} {k : Int} {m : Nat}, itemsGo k l = true → itemsGo k (l.take m) = true
  | [], k, m, h => by simpa using h
  | x :: r, k, 0, h => rfl
  | x :: r, k, m + 1, h => by
    rw [itemsGo, Bool.and_eq_true] at h
    rw [List.take_succ_cons, itemsGo, Bool.and_eq_true]
    exact ⟨h.1, itemsGo_take h.2⟩
theorem itemsOk_take {l : List Item} (h : itemsOk l = true) (m : Nat) : itemsOk (l.take m) = true := by
  unfold itemsOk at h ⊢
  rw [Bool.and_eq_true, decide_eq_true_eq] at h ⊢
  exact ⟨by rw [List.length_take]; omega, itemsGo_take h.2⟩
theorem itemsGo_wrong (n : Int) : ∀ (l : List Item) (k : Int), k + l.length = n → itemsGo k (l ++ [⟨1, [⟨n, 1⟩], 0⟩]) = false
  | [], k, h => by
    have hk : k = n := by simpa using h
    subst hk
    have : inR k 0 (k - 1) = false := by
      cases h : inR k 0 (k - 1) with
      | false => rfl
      | true => have := inR_iff.1 h; omega
    simp [itemsGo, itemOk, partsFitL, partsGo, this]
  | x :: r, k, h => by
    rw [List.cons_append, itemsGo, itemsGo_wrong n r (k + 1) (by rw [List.length_cons] at h; omega), Bool.and_false]
theorem items_wrong (l : List Item) : itemsOk (l ++ [⟨1, [⟨(l.length : Int), 1⟩], 0⟩]) = false := by
  unfold itemsOk
  rw [itemsGo_wrong (l.length : Int) l 0 (by omega), Bool.and_false]

theorem parts_lit {W : World} {g : Nat} {a b : Int} (hg : W.heap[g]? = some (Obj.cells #[.int .i64 a, .int .i64 b] 35 (0, 0))) : PartsAt W (some ⟨g, 0, none⟩) [⟨a, b⟩] ∧ TB W (some ⟨g, 0, none⟩) 35 := by
  refine ⟨fun i p hp => ?_, fun x hx => ?_⟩
  · obtain rfl : i = 0 := by have := (List.getElem?_eq_some_iff.1 hp).1; simp at this; exact this
    obtain rfl : (⟨a, b⟩ : Part) = p := by simpa using hp
    exact ⟨g, 0, rfl, heap_lt hg, by rw [cell_of_row W g _ _ _ _ hg]; rfl, by rw [cell_of_row W g _ _ _ _ hg]; rfl⟩
  · injection hx with hx
    subst hx
    exact ⟨rfl, _, hg⟩
theorem ItemSl.own_lt {w : World} {lo : Nat} {v : Value} {l : List Item} (h : ItemSl w lo v l) : ∀ k, v.ownBlock = some k → lo ≤ k ∧ k < w.heap.size := by
  obtain ⟨cs, ho, _⟩ := h
  exact ho.lt
theorem ItemSl.nil_of {w : World} {lo c : Nat} {l : List Item} (h : ItemSl w lo (.slice none l.length c) l) : l = [] ∧ c = 0 := by
  obtain ⟨cs, ho, _⟩ := h
  rcases ho.2 with ⟨hv, hn⟩ | ⟨g, cap, cur, hv, _⟩
  · injection hv with _ _ h3
    exact ⟨List.eq_nil_of_length_eq_zero hn, h3⟩
  · cases hv
theorem ItemSl.some_of {w : World} {lo c g off : Nat} {sp : Option Nat} {n : Nat} {l : List Item} (h : ItemSl w lo (.slice (some ⟨g, off, sp⟩) n c) l) : off = 0 ∧ sp = none := by
  obtain ⟨cs, ho, _⟩ := h
  rcases ho.2 with ⟨hv, hn⟩ | ⟨g', cap, cur, hv, _⟩
  · cases hv
  · injection hv with h1
    injection h1 with h1
    injection h1 with _ h2 h3
    exact ⟨h2, h3⟩
theorem ItemSl.capI {w : World} {lo c g : Nat} {l : List Item} (h : ItemSl w lo (.slice (some ⟨g, 0, none⟩) l.length c) l) : l.length ≤ c ∧ c ≤ maxLen := by
  obtain ⟨cs, ho, _⟩ := h
  rcases ho.2 with ⟨hv, hn⟩ | ⟨g', cap, cur, hv, _, _, h1, h2, _⟩
  · cases hv
  · injection hv with _ _ e3
    subst e3
    exact ⟨h1, h2⟩

def DrawnLiS (w : World) (e : Ending) (w' : World) : Prop := ∃ (l : List Item) (A : Option Addr) (c lo : Nat), e = .returned (.slice A l.length c) ∧
  ItemSl w' lo (.slice A l.length c) l ∧ l.length ≤ 7 ∧ (∀ x ∈ l, x.parts.length ≤ 5) ∧ Below w.heap.size w w'
set_option maxHeartbeats 1000000 in
theorem drawItemsValid_any (A : Option Addr) (c m : Nat) (w : World) (hB : BytesIn w A m) (hm : m ≤ 9223372036854775807) (hc : m ≤ c) (hc2 : c ≤ 9223372036854775807) :
    Calls Tryd.prog 9 #[.slice A m c] w (DrawnLiS w) := by
  go_enter Tryd.func9, Tryd.ntmps9
  go_wp2_with fail
  refine (open_any A c m w hB hm hc hc2).mono ?_
  rintro e w1 ⟨rfl, hR1, hb1⟩
  go_wp2_with fail
  refine (l20Items_any w.heap.size 0 2 _ hR1 (by omega) (by omega)).mono ?_
  rintro e w2 ⟨l, v, rfl, hS, hl, hle, -, hg⟩
  have hb2 := hb1.grown hg hb1.size (fun j hj => by injection hj with hj; omega)
  obtain ⟨A2, c2, rfl, -⟩ := hS.form
  have HS := hide hS
  have HLE := hide hle
  clear hS hle hg
  go_wp2_with fail
  refine bodyPost_ret (results_tmp rfl _ _ _) rfl ⟨l, A2, c2, _, rfl, HS.out, hl, HLE.out, hb2⟩

set_option maxRecDepth 100000 in
set_option maxHeartbeats 20000000 in
theorem lawItemsValid_any (A : Option Addr) (c m : Nat) (w : World) (hB : BytesIn w A m) (hc : m ≤ c) (hc2 : c ≤ 9223372036854775807) :
    Calls Tryd.prog 4 #[.slice A m c] w fun e w' => e = .returned (.bool true) ∧ Below w.heap.size w w' := by
  by_cases hlen : (1048576 : Int) < m
  · go_enter Tryd.func4, Tryd.ntmps4
    go_wp2_with fail
    go_ret
    exact ⟨rfl, by go_grown⟩
  · go_enter Tryd.func4, Tryd.ntmps4
    go_wp2_with fail
    refine (drawItemsValid_any A c m w hB (by omega) hc hc2).mono ?_
    rintro e w1 ⟨l, A1, c1, lo, rfl, hS, hl7, hle, hb1⟩
    have HS1 := hide hS
    have HP := hide (fun (x : Item) (hx : x ∈ l) => Nat.le_trans (hle x hx) (by omega : 5 ≤ 1048576))
    have hl' : l.length ≤ 1048576 := by omega
    clear hS hle
    obtain ⟨v, HV⟩ : ∃ v, Hid (itemsOk l = v) := ⟨_, hide rfl⟩
    have hbb : (v != v) = false := by simp
    go_wp2_with fail
    refine (implItemsValid_any _ _ _ _ HS1.out.itemsAt hl' HP.out).mono ?_
    rintro e w2 ⟨rfl, hB2⟩
    rw [HV.out]
    have hb2 := next hb1 hB2
    have HS2 := hide (HS1.out.belowC hB2)
    clear hB2 HS1
    go_wp2_with fail
    refine (specItemsValid_any _ _ _ _ HS2.out.itemsAt hl' HP.out).mono ?_
    rintro e w3 ⟨rfl, hB3⟩
    rw [HV.out]
    have hb3 := next hb2 hB3
    have HS3 := hide (HS2.out.belowC hB3)
    clear hB3 HS2
    have hz3 := hb3.size
    have HX4 : Hid (((w3.alloc (.cells #[.int .i64 l.length, .int .i64 1] 35)).alloc (.cells #[.int .i64 1, .slice (some ⟨w3.heap.size, 0, none⟩) 1 1, .int .i64 0] 38)).heap[w3.heap.size + 1]? = some (.cells #[.int .i64 1, .slice (some ⟨w3.heap.size, 0, none⟩) 1 1, .int .i64 0] 38 (0, 0))) := hide (by
      have := heap_alloc_new (w3.alloc (.cells #[.int .i64 l.length, .int .i64 1] 35)) (.cells #[.int .i64 1, .slice (some ⟨w3.heap.size, 0, none⟩) 1 1, .int .i64 0] 38)
      rwa [World.size_alloc] at this)
    have HPT : Hid (((w3.alloc (.cells #[.int .i64 l.length, .int .i64 1] 35)).alloc (.cells #[.int .i64 1, .slice (some ⟨w3.heap.size, 0, none⟩) 1 1, .int .i64 0] 38)).heap[w3.heap.size]? = some (.cells #[.int .i64 l.length, .int .i64 1] 35 (0, 0))) := hide ((heap_alloc_old _ _ (by simp)).trans (heap_alloc_new w3 _))
    have hb34 : Below w3.heap.size w3 ((w3.alloc (.cells #[.int .i64 l.length, .int .i64 1] 35)).alloc (.cells #[.int .i64 1, .slice (some ⟨w3.heap.size, 0, none⟩) 1 1, .int .i64 0] 38)) := ((Below.refl _ _).alloc (Nat.le_refl _) _).alloc (by simp) _
    have hb4 := next hb3 hb34
    have HS4 := hide (HS3.out.belowC hb34)
    have HWR := hide (items_wrong l)
    have HPW : Hid (∀ x ∈ l ++ [(⟨1, [⟨(l.length : Int), 1⟩], 0⟩ : Item)], x.parts.length ≤ 1048576) := hide (fun x hx => by
      rcases List.mem_append.1 hx with hx | hx
      · exact HP.out x hx
      · obtain rfl : x = ⟨1, [⟨(l.length : Int), 1⟩], 0⟩ := by simpa using hx
        simp)
    clear hb34 HS3
    go_upto_region 8 with fail
    obtain ⟨w4, hw4⟩ : ∃ w4, ((w3.alloc (.cells #[.int .i64 l.length, .int .i64 1] 35)).alloc (.cells #[.int .i64 1, .slice (some ⟨w3.heap.size, 0, none⟩) 1 1, .int .i64 0] 38)) = w4 := ⟨_, rfl⟩
    rw [hw4] at HX4 HPT hb4 HS4 ⊢
    have hXl := heap_lt HX4.out
    have hPl := heap_lt HPT.out
    obtain ⟨hx0, hx1, hx2, -⟩ := cellsX HX4.out
    have hz4 := hb4.size
    clear hw4
    rcases A1 with _ | ⟨g, off, sp⟩
    · obtain ⟨rfl, rfl⟩ := ItemSl.nil_of HS4.out
      cases v with
      | false =>
        refine wp_region_noPanic ?_
        refine wp_region_held_drew (S := fun W => Below w4.heap.size w4 W) (by kernel_rfl) (by go_grown) (fun hH0 => ?_)
        have hH0h := hide (show Below w4.heap.size w4 _ from hH0)
        clear hH0
        obtain ⟨w5, hw5⟩ : ∃ w5, World.drew w4 = w5 := ⟨_, rfl⟩
        rw [hw5] at hH0h ⊢
        have hz5 : w4.heap.size ≤ w5.heap.size := by rw [← hw5]; exact Nat.le_refl _
        clear hw5
        refine wpAnyH_take (i := 0) (oi := { dst := some 22, op := Op.move (Operand.tmp 4), type := 4, pos := "laws.go:102", after := #[], guard := none }) (v := ?v101) rfl (by kernel_rfl) (by kernel_rfl) (by kernel_rfl) (fun _ _ _ h => h) (Or.inl ⟨by rfl, ?hy101⟩) hH0h.out ?rest101
        case hy101 => (intro w9 hS9; go_simp; (try with_reducible rfl))
        simp only [Act.put, List.setIfInBounds_toArray, List.set_cons_zero, List.set_cons_succ]
        refine wpAnyH_take (i := 1) (oi := { dst := some 23, op := Op.unOp UnOp.not 4 (Operand.tmp 22), type := 4, pos := "laws.go:102", after := #[{ on := 0, ground := Ground.data }], guard := none }) (v := ?v102) rfl (by kernel_rfl) (by kernel_rfl) (by kernel_rfl) (fun _ _ _ h => h) (Or.inl ⟨by rfl, ?hy102⟩) hH0h.out ?rest102
        case hy102 => (intro w9 hS9; go_simp; (try with_reducible rfl))
        simp only [Act.put, List.setIfInBounds_toArray, List.set_cons_zero, List.set_cons_succ]
        refine wpAnyH_take (i := 2) (oi := { dst := some 24, op := Op.move (Operand.tmp 23), type := 4, pos := "laws.go:102", after := #[{ on := 1, ground := Ground.data }], guard := none }) (v := ?v103) rfl (by kernel_rfl) (by kernel_rfl) (by kernel_rfl) (fun _ _ _ h => h) (Or.inl ⟨by rfl, ?hy103⟩) hH0h.out ?rest103
        case hy103 => (intro w9 hS9; go_simp; (try with_reducible rfl))
        simp only [Act.put, List.setIfInBounds_toArray, List.set_cons_zero, List.set_cons_succ]
        refine wpAnyH_take (i := 3) (oi := { dst := some 25, op := Op.move (Operand.tmp 3), type := 31, pos := "laws.go:102", after := #[{ on := 2, ground := Ground.guard }], guard := some (2, false) }) (v := undef) rfl (by kernel_rfl) (by kernel_rfl) (by kernel_rfl) (fun _ _ _ h => h) (Or.inr ⟨by rfl, rfl⟩) hH0h.out ?_
        simp only [Act.put, List.setIfInBounds_toArray, List.set_cons_zero, List.set_cons_succ]
        refine wpAnyH_take (i := 4) (oi := { dst := some 26, op := Op.call { callee := Callee.builtin Builtin.len, args := #[Operand.tmp 25], argTypes := #[31] }, type := 3, pos := "laws.go:102", after := #[{ on := 3, ground := Ground.data }, { on := 2, ground := Ground.guard }], guard := some (2, false) }) (v := undef) rfl (by kernel_rfl) (by kernel_rfl) (by kernel_rfl) (fun _ _ _ h => h) (Or.inr ⟨by rfl, rfl⟩) hH0h.out ?_
        simp only [Act.put, List.setIfInBounds_toArray, List.set_cons_zero, List.set_cons_succ]
        refine wpAnyH_take (i := 5) (oi := { dst := some 27, op := Op.binOp BinOp.eql 3 (Operand.tmp 26) (Operand.const (Value.int IntKind.i64 0)) 3, type := 4, pos := "laws.go:102", after := #[{ on := 4, ground := Ground.data }, { on := 2, ground := Ground.guard }], guard := some (2, false) }) (v := undef) rfl (by kernel_rfl) (by kernel_rfl) (by kernel_rfl) (fun _ _ _ h => h) (Or.inr ⟨by rfl, rfl⟩) hH0h.out ?_
        simp only [Act.put, List.setIfInBounds_toArray, List.set_cons_zero, List.set_cons_succ]
        refine wpAnyH_take (i := 6) (oi := { dst := some 28, op := Op.pick (Operand.tmp 24) (Operand.const (Value.bool true)) (Operand.tmp 27), type := 4, pos := "laws.go:102", after := #[{ on := 2, ground := Ground.data }, { on := 5, ground := Ground.data }], guard := none }) (v := ?v107) rfl (by kernel_rfl) (by kernel_rfl) (by kernel_rfl) (fun _ _ _ h => h) (Or.inl ⟨by rfl, ?hy107⟩) hH0h.out ?rest107
        case hy107 => (intro w9 hS9; go_simp; (try with_reducible rfl))
        simp only [Act.put, List.setIfInBounds_toArray, List.set_cons_zero, List.set_cons_succ]
        refine wpAnyH_take (i := 7) (oi := { dst := some 29, op := Op.move (Operand.tmp 28), type := 4, pos := "laws.go:102", after := #[{ on := 6, ground := Ground.data }, { on := 2, ground := Ground.chain }], guard := none }) (v := ?v108) rfl (by kernel_rfl) (by kernel_rfl) (by kernel_rfl) (fun _ _ _ h => h) (Or.inl ⟨by rfl, ?hy108⟩) hH0h.out ?rest108
        case hy108 => (intro w9 hS9; go_simp; (try with_reducible rfl))
        simp only [Act.put, List.setIfInBounds_toArray, List.set_cons_zero, List.set_cons_succ]
        refine wpAnyH_take (i := 8) (oi := { dst := some 30, op := Op.move (Operand.tmp 3), type := 31, pos := "laws.go:102", after := #[{ on := 7, ground := Ground.guard }], guard := some (7, false) }) (v := undef) rfl (by kernel_rfl) (by kernel_rfl) (by kernel_rfl) (fun _ _ _ h => h) (Or.inr ⟨by rfl, rfl⟩) hH0h.out ?_
        simp only [Act.put, List.setIfInBounds_toArray, List.set_cons_zero, List.set_cons_succ]
        refine wpAnyH_take (i := 9) (oi := { dst := some 31, op := Op.move (Operand.tmp 3), type := 31, pos := "laws.go:102", after := #[{ on := 7, ground := Ground.guard }], guard := some (7, false) }) (v := undef) rfl (by kernel_rfl) (by kernel_rfl) (by kernel_rfl) (fun _ _ _ h => h) (Or.inr ⟨by rfl, rfl⟩) hH0h.out ?_
        simp only [Act.put, List.setIfInBounds_toArray, List.set_cons_zero, List.set_cons_succ]
        refine wpAnyH_take (i := 10) (oi := { dst := some 32, op := Op.call { callee := Callee.builtin Builtin.len, args := #[Operand.tmp 31], argTypes := #[31] }, type := 3, pos := "laws.go:102", after := #[{ on := 9, ground := Ground.data }, { on := 7, ground := Ground.guard }], guard := some (7, false) }) (v := undef) rfl (by kernel_rfl) (by kernel_rfl) (by kernel_rfl) (fun _ _ _ h => h) (Or.inr ⟨by rfl, rfl⟩) hH0h.out ?_
        simp only [Act.put, List.setIfInBounds_toArray, List.set_cons_zero, List.set_cons_succ]
        refine wpAnyH_take (i := 11) (oi := { dst := some 33, op := Op.binOp BinOp.sub 3 (Operand.tmp 32) (Operand.const (Value.int IntKind.i64 1)) 3, type := 3, pos := "laws.go:102", after := #[{ on := 10, ground := Ground.data }, { on := 7, ground := Ground.guard }], guard := some (7, false) }) (v := undef) rfl (by kernel_rfl) (by kernel_rfl) (by kernel_rfl) (fun _ _ _ h => h) (Or.inr ⟨by rfl, rfl⟩) hH0h.out ?_
        simp only [Act.put, List.setIfInBounds_toArray, List.set_cons_zero, List.set_cons_succ]
        refine wpAnyH_take (i := 12) (oi := { dst := some 34, op := Op.slice 31 (Operand.tmp 30) none (some (Operand.tmp 33)) none, type := 31, pos := "laws.go:102", after := #[{ on := 8, ground := Ground.data }, { on := 11, ground := Ground.data }, { on := 7, ground := Ground.guard }], guard := some (7, false) }) (v := undef) rfl (by kernel_rfl) (by kernel_rfl) (by kernel_rfl) (fun _ _ _ h => h) (Or.inr ⟨by rfl, rfl⟩) hH0h.out ?_
        simp only [Act.put, List.setIfInBounds_toArray, List.set_cons_zero, List.set_cons_succ]
        refine wpAnyH_take (i := 13) (oi := { dst := some 35, op := Op.call { callee := Callee.value (Operand.func 10), args := #[Operand.tmp 34], argTypes := #[31] }, type := 4, pos := "laws.go:102", after := #[{ on := 12, ground := Ground.data }, { on := 7, ground := Ground.chain }, { on := 7, ground := Ground.guard }], guard := some (7, false) }) (v := undef) rfl (by kernel_rfl) (by kernel_rfl) (by kernel_rfl) (fun _ _ _ h => h) (Or.inr ⟨by rfl, rfl⟩) hH0h.out ?_
        simp only [Act.put, List.setIfInBounds_toArray, List.set_cons_zero, List.set_cons_succ]
        refine wpAnyH_take (i := 14) (oi := { dst := some 36, op := Op.pick (Operand.tmp 29) (Operand.const (Value.bool true)) (Operand.tmp 35), type := 4, pos := "laws.go:102", after := #[{ on := 7, ground := Ground.data }, { on := 13, ground := Ground.data }], guard := none }) (v := ?v115) rfl (by kernel_rfl) (by kernel_rfl) (by kernel_rfl) (fun _ _ _ h => h) (Or.inl ⟨by rfl, ?hy115⟩) hH0h.out ?rest115
        case hy115 => (intro w9 hS9; go_simp; (try with_reducible rfl))
        simp only [Act.put, List.setIfInBounds_toArray, List.set_cons_zero, List.set_cons_succ]
        refine wpAnyH_take (i := 15) (oi := { dst := some 37, op := Op.move (Operand.tmp 36), type := 4, pos := "laws.go:102", after := #[{ on := 14, ground := Ground.data }, { on := 13, ground := Ground.chain }], guard := none }) (v := ?v116) rfl (by kernel_rfl) (by kernel_rfl) (by kernel_rfl) (fun _ _ _ h => h) (Or.inl ⟨by rfl, ?hy116⟩) hH0h.out ?rest116
        case hy116 => (intro w9 hS9; go_simp; (try with_reducible rfl))
        simp only [Act.put, List.setIfInBounds_toArray, List.set_cons_zero, List.set_cons_succ]
        refine wpAnyH_take (i := 17) (oi := { dst := some 39, op := Op.move (Operand.tmp 3), type := 31, pos := "laws.go:102", after := #[{ on := 15, ground := Ground.guard }], guard := some (15, true) }) (v := ?v117) rfl (by kernel_rfl) (by kernel_rfl) (by kernel_rfl) (fun _ _ _ h => h) (Or.inl ⟨by rfl, ?hy117⟩) hH0h.out ?rest117
        case hy117 => (intro w9 hS9; go_simp; (try with_reducible rfl))
        simp only [Act.put, List.setIfInBounds_toArray, List.set_cons_zero, List.set_cons_succ]
        refine wpAnyH_take (i := 19) (oi := { dst := some 41, op := Op.load 38 (Operand.tmp 5), type := 38, pos := "laws.go:102", after := #[{ on := 15, ground := Ground.guard }], guard := some (15, true) }) (v := ?v118) rfl (by kernel_rfl) (by kernel_rfl) (by kernel_rfl) (fun _ _ _ h => h) (Or.inl ⟨by rfl, ?hy118⟩) hH0h.out ?rest118
        case hy118 => (intro w9 hS9; have hc90 := (Below.cell (show Below w4.heap.size w4 w9 from hS9) hXl).trans hx0; have hc91 := (Below.cell (show Below w4.heap.size w4 w9 from hS9) hXl).trans hx1; have hc92 := (Below.cell (show Below w4.heap.size w4 w9 from hS9) hXl).trans hx2; go_simp; (try with_reducible rfl))
        simp only [Act.put, List.setIfInBounds_toArray, List.set_cons_zero, List.set_cons_succ]
        refine wpAnyH_ready (rs := [16, 20]) (by kernel_rfl) (by simp) ?_
        refine AllReadyH.cons (o := { dst := some 38, op := Op.buildSlice 31 0 #[], type := 31, pos := "laws.go:102", after := #[{ on := 15, ground := Ground.guard }], guard := some (15, true) }) rfl (fun K hK => ?_) (AllReadyH.cons (o := { dst := some 42, op := Op.buildSlice 31 1 #[(0, Operand.tmp 41)], type := 31, pos := "laws.go:102", after := #[{ on := 19, ground := Ground.data }, { on := 15, ground := Ground.guard }], guard := some (15, true) }) rfl (fun K hK => ?_) (AllReadyH.nil))
        ·
          go_simp
          have HO10 : Hid (ItemSl (w5.alloc (.cells #[] 38)) w5.heap.size (.slice (some ⟨w5.heap.size, 0, none⟩) 0 0) []) := hide ⟨[], by exact World.ownsRow_lit w5 #[] 0 (by first | exact Nat.le_refl _ | (simp; done) | (simp <;> omega)) (by unfold maxLen; omega) rfl, fun i x hx => by simp at hx⟩
          refine hK.out _ _ (Below.alloc hH0h.out (Below.size hH0h.out) _) (fun hH16 => ?_)
          clear hK K
          try simp only [Act.put, List.setIfInBounds_toArray, List.set_cons_zero, List.set_cons_succ]
          have hH16h := hide (show Below w4.heap.size w4 _ from hH16)
          clear hH16
          refine wpAnyH_ready (rs := [18, 20]) (by kernel_rfl) (by simp) ?_
          refine AllReadyH.cons (o := { dst := some 40, op := Op.call { callee := Callee.builtin Builtin.append, args := #[Operand.tmp 38, Operand.tmp 39], argTypes := #[31, 31] }, type := 31, pos := "laws.go:102", after := #[{ on := 16, ground := Ground.data }, { on := 17, ground := Ground.data }, { on := 15, ground := Ground.chain }, { on := 15, ground := Ground.guard }], guard := some (15, true) }) rfl (fun K hK => ?_) (AllReadyH.cons (o := { dst := some 42, op := Op.buildSlice 31 1 #[(0, Operand.tmp 41)], type := 31, pos := "laws.go:102", after := #[{ on := 19, ground := Ground.data }, { on := 15, ground := Ground.guard }], guard := some (15, true) }) rfl (fun K hK => ?_) (AllReadyH.nil))
          ·
            go_simp
            refine hK.out _ _ hH16h.out (fun hH18 => ?_)
            clear hK K
            try simp only [Act.put, List.setIfInBounds_toArray, List.set_cons_zero, List.set_cons_succ]
            have hH18h := hide (show Below w4.heap.size w4 _ from hH18)
            clear hH18
            refine wpAnyH_ready (rs := [20]) (by kernel_rfl) (by simp) ?_
            refine AllReadyH.cons (o := { dst := some 42, op := Op.buildSlice 31 1 #[(0, Operand.tmp 41)], type := 31, pos := "laws.go:102", after := #[{ on := 19, ground := Ground.data }, { on := 15, ground := Ground.guard }], guard := some (15, true) }) rfl (fun K hK => ?_) (AllReadyH.nil)
            go_simp
            have HO16 := hide (ItemSl.alloc HO10.out (.cells #[.int .i64 1, .slice (some ⟨w3.heap.size, 0, none⟩) 1 1, .int .i64 0] 38))
            have HG16 : Hid (((w5.alloc (.cells #[] 38)).alloc (.cells #[.int .i64 1, .slice (some ⟨w3.heap.size, 0, none⟩) 1 1, .int .i64 0] 38)).heap[(w5.heap.size + 1)]? = some (.cells #[.int .i64 1, .slice (some ⟨w3.heap.size, 0, none⟩) 1 1, .int .i64 0] 38)) := hide (by rw [show w5.heap.size + 1 = (w5.alloc (.cells #[] 38)).heap.size by simp]; exact heap_alloc_new (w5.alloc (.cells #[] 38)) _)
            refine hK.out _ _ (Below.alloc hH18h.out (Below.size hH18h.out) _) (fun hH20 => ?_)
            clear hK K
            try simp only [Act.put, List.setIfInBounds_toArray, List.set_cons_zero, List.set_cons_succ]
            have hH20h := hide (show Below w4.heap.size w4 _ from hH20)
            clear hH20
            refine wpAnyH_ready (rs := [21]) (by kernel_rfl) (by simp) ?_
            refine AllReadyH.cons (o := { dst := some 43, op := Op.call { callee := Callee.builtin Builtin.append, args := #[Operand.tmp 40, Operand.tmp 42], argTypes := #[31, 31] }, type := 31, pos := "laws.go:102", after := #[{ on := 18, ground := Ground.data }, { on := 20, ground := Ground.data }, { on := 18, ground := Ground.chain }, { on := 15, ground := Ground.guard }], guard := some (15, true) }) rfl (fun K hK => ?_) (AllReadyH.nil)
            refine step_push_item (by rfl) _ _ (by rfl) w5.heap.size (.slice (some ⟨w5.heap.size, 0, none⟩) 0 0) [] (by rfl) HO16.out ((w5.heap.size + 1)) ⟨1, [⟨([] : List Item).length, 1⟩], 0⟩ (some ⟨w3.heap.size, 0, none⟩) 1 (by rfl) HG16.out (parts_lit ((Below.block hH20h.out _ hPl).trans HPT.out)).1 (parts_lit ((Below.block hH20h.out _ hPl).trans HPT.out)).2 (by first | omega | simp) (by first | exact HZ12 | (simp <;> omega)) ?_
            intro g17 cap17 w17 hown17 hgrow17
            have HS17 : Hid (Below w4.heap.size w4 w17) := hide (Below.grown hH20h.out hgrow17 (Below.size hH20h.out) (fun k hk => Nat.le_trans hz5 (ItemSl.own_lt HO16.out k hk).1))
            have HO17 := hide hown17
            clear hown17 hgrow17
            refine hK.out _ _ HS17.out (fun hH21 => ?_)
            clear hK K
            try simp only [Act.put, List.setIfInBounds_toArray, List.set_cons_zero, List.set_cons_succ]
            have hH21h := hide (show Below w4.heap.size w4 _ from hH21)
            clear hH21
            refine wpAnyH_ready (rs := [22]) (by kernel_rfl) (by simp) ?_
            refine AllReadyH.cons (o := { dst := some 44, op := Op.call { callee := Callee.value (Operand.func 10), args := #[Operand.tmp 43], argTypes := #[31] }, type := 4, pos := "laws.go:102", after := #[{ on := 21, ground := Ground.data }, { on := 21, ground := Ground.chain }, { on := 15, ground := Ground.guard }], guard := some (15, true) }) rfl (fun K hK => ?_) (AllReadyH.nil)
            go_simp
            go_at_call 10
            refine (implItemsValid_at _ _ _ _ _ _ (by simp) HWR HO17.out.itemsAt (by first | omega | simp) HPW.out).mono ?_
            rintro e w19 ⟨rfl, hB19⟩
            have HS19 := hide (next hH21h.out hB19)
            clear hB19
            go_wp2_with fail
            refine hK.out _ _ HS19.out (fun hH22 => ?_)
            clear hK K
            try simp only [Act.put, List.setIfInBounds_toArray, List.set_cons_zero, List.set_cons_succ]
            have hH22h := hide (show Below w4.heap.size w4 _ from hH22)
            clear hH22
            refine wpAnyH_take (i := 23) (oi := { dst := some 45, op := Op.unOp UnOp.not 4 (Operand.tmp 44), type := 4, pos := "laws.go:102", after := #[{ on := 22, ground := Ground.data }, { on := 15, ground := Ground.guard }], guard := some (15, true) }) (v := ?v119) rfl (by kernel_rfl) (by kernel_rfl) (by kernel_rfl) (fun _ _ _ h => h) (Or.inl ⟨by rfl, ?hy119⟩) hH22h.out ?rest119
            case hy119 => (intro w9 hS9; go_simp; (try with_reducible rfl))
            simp only [Act.put, List.setIfInBounds_toArray, List.set_cons_zero, List.set_cons_succ]
            refine wpAnyH_take (i := 24) (oi := { dst := some 46, op := Op.pick (Operand.tmp 37) (Operand.tmp 45) (Operand.const (Value.bool false)), type := 4, pos := "laws.go:102", after := #[{ on := 15, ground := Ground.data }, { on := 23, ground := Ground.data }], guard := none }) (v := ?v120) rfl (by kernel_rfl) (by kernel_rfl) (by kernel_rfl) (fun _ _ _ h => h) (Or.inl ⟨by rfl, ?hy120⟩) hH22h.out ?rest120
            case hy120 => (intro w9 hS9; go_simp; (try with_reducible rfl))
            simp only [Act.put, List.setIfInBounds_toArray, List.set_cons_zero, List.set_cons_succ]
            refine wpAnyH_take (i := 25) (oi := { dst := some 47, op := Op.move (Operand.tmp 46), type := 4, pos := "laws.go:102", after := #[{ on := 24, ground := Ground.data }, { on := 22, ground := Ground.chain }], guard := none }) (v := ?v121) rfl (by kernel_rfl) (by kernel_rfl) (by kernel_rfl) (fun _ _ _ h => h) (Or.inl ⟨by rfl, ?hy121⟩) hH22h.out ?rest121
            case hy121 => (intro w9 hS9; go_simp; (try with_reducible rfl))
            simp only [Act.put, List.setIfInBounds_toArray, List.set_cons_zero, List.set_cons_succ]
            refine wpAnyH_ready (rs := [26]) (by kernel_rfl) (by simp) ?_
            refine AllReadyH.cons (o := { dst := some 48, op := Op.call { callee := Callee.value (Operand.func 10), args := #[Operand.const (Value.slice none 0 0)], argTypes := #[31] }, type := 4, pos := "laws.go:102", after := #[{ on := 25, ground := Ground.chain }, { on := 25, ground := Ground.guard }], guard := some (25, true) }) rfl (fun K hK => ?_) (AllReadyH.nil)
            go_simp
            go_at_call 10
            refine (implItemsValid_at none 0 0 [] true _ rfl (hide rfl) (fun i x hx => by simp at hx) (by omega) (fun x hx => by simp at hx)).mono ?_
            rintro e w20 ⟨rfl, hB20⟩
            have HS20 := hide (next hH22h.out hB20)
            clear hB20
            go_wp2_with fail
            refine hK.out _ _ HS20.out (fun hH26 => ?_)
            clear hK K
            try simp only [Act.put, List.setIfInBounds_toArray, List.set_cons_zero, List.set_cons_succ]
            have hH26h := hide (show Below w4.heap.size w4 _ from hH26)
            clear hH26
            refine wpAnyH_take (i := 27) (oi := { dst := some 49, op := Op.pick (Operand.tmp 47) (Operand.tmp 48) (Operand.const (Value.bool false)), type := 4, pos := "laws.go:102", after := #[{ on := 25, ground := Ground.data }, { on := 26, ground := Ground.data }], guard := none }) (v := ?v122) rfl (by kernel_rfl) (by kernel_rfl) (by kernel_rfl) (fun _ _ _ h => h) (Or.inl ⟨by rfl, ?hy122⟩) hH26h.out ?rest122
            case hy122 => (intro w9 hS9; go_simp; (try with_reducible rfl))
            simp only [Act.put, List.setIfInBounds_toArray, List.set_cons_zero, List.set_cons_succ]
            refine wpAnyH_take (i := 28) (oi := { dst := some 50, op := Op.move (Operand.tmp 49), type := 4, pos := "laws.go:102", after := #[{ on := 27, ground := Ground.data }, { on := 26, ground := Ground.chain }], guard := none }) (v := ?v123) rfl (by kernel_rfl) (by kernel_rfl) (by kernel_rfl) (fun _ _ _ h => h) (Or.inl ⟨by rfl, ?hy123⟩) hH26h.out ?rest123
            case hy123 => (intro w9 hS9; go_simp; (try with_reducible rfl))
            simp only [Act.put, List.setIfInBounds_toArray, List.set_cons_zero, List.set_cons_succ]
            refine wpAnyH_ready (rs := [29]) (by kernel_rfl) (by simp) ?_
            refine AllReadyH.cons (o := { dst := some 51, op := Op.call { callee := Callee.value (Operand.func 8), args := #[], argTypes := #[] }, type := 4, pos := "laws.go:102", after := #[{ on := 28, ground := Ground.chain }, { on := 28, ground := Ground.guard }], guard := some (28, true) }) rfl (fun K hK => ?_) (AllReadyH.nil)
            go_simp
            go_at_call 8
            refine (alive_any _).mono ?_
            rintro e w6 ⟨rfl, hB6⟩
            have HB6 := hide (next hH26h.out hB6)
            clear hB6
            go_wp2_with fail
            refine hK.out _ _ HB6.out (fun hH29 => ?_)
            clear hK K
            try simp only [Act.put, List.setIfInBounds_toArray, List.set_cons_zero, List.set_cons_succ]
            have hH29h := hide (show Below w4.heap.size w4 _ from hH29)
            clear hH29
            refine wpAnyH_take (i := 30) (oi := { dst := some 52, op := Op.pick (Operand.tmp 50) (Operand.tmp 51) (Operand.const (Value.bool false)), type := 4, pos := "laws.go:102", after := #[{ on := 28, ground := Ground.data }, { on := 29, ground := Ground.data }], guard := none }) (v := ?v124) rfl (by kernel_rfl) (by kernel_rfl) (by kernel_rfl) (fun _ _ _ h => h) (Or.inl ⟨by rfl, ?hy124⟩) hH29h.out ?rest124
            case hy124 => (intro w9 hS9; go_simp; (try with_reducible rfl))
            simp only [Act.put, List.setIfInBounds_toArray, List.set_cons_zero, List.set_cons_succ]
            refine wpAnyH_take (i := 31) (oi := { dst := some 2, op := Op.assign (Operand.tmp 52), type := 4, pos := "laws.go:102", after := #[{ on := 30, ground := Ground.data }, { on := 29, ground := Ground.chain }, { on := 0, ground := Ground.phase }, { on := 1, ground := Ground.phase }, { on := 2, ground := Ground.phase }, { on := 3, ground := Ground.phase }, { on := 4, ground := Ground.phase }, { on := 5, ground := Ground.phase }, { on := 6, ground := Ground.phase }, { on := 7, ground := Ground.phase }, { on := 8, ground := Ground.phase }, { on := 9, ground := Ground.phase }, { on := 10, ground := Ground.phase }, { on := 11, ground := Ground.phase }, { on := 12, ground := Ground.phase }, { on := 13, ground := Ground.phase }, { on := 14, ground := Ground.phase }, { on := 15, ground := Ground.phase }, { on := 16, ground := Ground.phase }, { on := 17, ground := Ground.phase }, { on := 18, ground := Ground.phase }, { on := 19, ground := Ground.phase }, { on := 20, ground := Ground.phase }, { on := 21, ground := Ground.phase }, { on := 22, ground := Ground.phase }, { on := 23, ground := Ground.phase }, { on := 24, ground := Ground.phase }, { on := 25, ground := Ground.phase }, { on := 26, ground := Ground.phase }, { on := 27, ground := Ground.phase }, { on := 28, ground := Ground.phase }, { on := 29, ground := Ground.phase }, { on := 30, ground := Ground.phase }], guard := none }) (v := ?v125) rfl (by kernel_rfl) (by kernel_rfl) (by kernel_rfl) (fun _ _ _ h => h) (Or.inl ⟨by rfl, ?hy125⟩) hH29h.out ?rest125
            case hy125 => (intro w9 hS9; go_simp; (try with_reducible rfl))
            simp only [Act.put, List.setIfInBounds_toArray, List.set_cons_zero, List.set_cons_succ]
            refine wpAnyH_done (by kernel_rfl) ?_ _
            refine NoPanic.normal ?_
            go_wp2_with fail
            go_ret
            exact ⟨rfl, next hb4 HB6.out⟩
          ·
            go_simp
            have HO16 := hide (ItemSl.alloc HO10.out (.cells #[.int .i64 1, .slice (some ⟨w3.heap.size, 0, none⟩) 1 1, .int .i64 0] 38))
            have HG16 : Hid (((w5.alloc (.cells #[] 38)).alloc (.cells #[.int .i64 1, .slice (some ⟨w3.heap.size, 0, none⟩) 1 1, .int .i64 0] 38)).heap[(w5.heap.size + 1)]? = some (.cells #[.int .i64 1, .slice (some ⟨w3.heap.size, 0, none⟩) 1 1, .int .i64 0] 38)) := hide (by rw [show w5.heap.size + 1 = (w5.alloc (.cells #[] 38)).heap.size by simp]; exact heap_alloc_new (w5.alloc (.cells #[] 38)) _)
            refine hK.out _ _ (Below.alloc hH16h.out (Below.size hH16h.out) _) (fun hH20 => ?_)
            clear hK K
            try simp only [Act.put, List.setIfInBounds_toArray, List.set_cons_zero, List.set_cons_succ]
            have hH20h := hide (show Below w4.heap.size w4 _ from hH20)
            clear hH20
            refine wpAnyH_ready (rs := [18]) (by kernel_rfl) (by simp) ?_
            refine AllReadyH.cons (o := { dst := some 40, op := Op.call { callee := Callee.builtin Builtin.append, args := #[Operand.tmp 38, Operand.tmp 39], argTypes := #[31, 31] }, type := 31, pos := "laws.go:102", after := #[{ on := 16, ground := Ground.data }, { on := 17, ground := Ground.data }, { on := 15, ground := Ground.chain }, { on := 15, ground := Ground.guard }], guard := some (15, true) }) rfl (fun K hK => ?_) (AllReadyH.nil)
            go_simp
            refine hK.out _ _ hH20h.out (fun hH18 => ?_)
            clear hK K
            try simp only [Act.put, List.setIfInBounds_toArray, List.set_cons_zero, List.set_cons_succ]
            have hH18h := hide (show Below w4.heap.size w4 _ from hH18)
            clear hH18
            refine wpAnyH_ready (rs := [21]) (by kernel_rfl) (by simp) ?_
            refine AllReadyH.cons (o := { dst := some 43, op := Op.call { callee := Callee.builtin Builtin.append, args := #[Operand.tmp 40, Operand.tmp 42], argTypes := #[31, 31] }, type := 31, pos := "laws.go:102", after := #[{ on := 18, ground := Ground.data }, { on := 20, ground := Ground.data }, { on := 18, ground := Ground.chain }, { on := 15, ground := Ground.guard }], guard := some (15, true) }) rfl (fun K hK => ?_) (AllReadyH.nil)
            refine step_push_item (by rfl) _ _ (by rfl) w5.heap.size (.slice (some ⟨w5.heap.size, 0, none⟩) 0 0) [] (by rfl) HO16.out ((w5.heap.size + 1)) ⟨1, [⟨([] : List Item).length, 1⟩], 0⟩ (some ⟨w3.heap.size, 0, none⟩) 1 (by rfl) HG16.out (parts_lit ((Below.block hH18h.out _ hPl).trans HPT.out)).1 (parts_lit ((Below.block hH18h.out _ hPl).trans HPT.out)).2 (by first | omega | simp) (by first | exact HZ12 | (simp <;> omega)) ?_
            intro g17 cap17 w17 hown17 hgrow17
            have HS17 : Hid (Below w4.heap.size w4 w17) := hide (Below.grown hH18h.out hgrow17 (Below.size hH18h.out) (fun k hk => Nat.le_trans hz5 (ItemSl.own_lt HO16.out k hk).1))
            have HO17 := hide hown17
            clear hown17 hgrow17
            refine hK.out _ _ HS17.out (fun hH21 => ?_)
            clear hK K
            try simp only [Act.put, List.setIfInBounds_toArray, List.set_cons_zero, List.set_cons_succ]
            have hH21h := hide (show Below w4.heap.size w4 _ from hH21)
            clear hH21
            refine wpAnyH_ready (rs := [22]) (by kernel_rfl) (by simp) ?_
            refine AllReadyH.cons (o := { dst := some 44, op := Op.call { callee := Callee.value (Operand.func 10), args := #[Operand.tmp 43], argTypes := #[31] }, type := 4, pos := "laws.go:102", after := #[{ on := 21, ground := Ground.data }, { on := 21, ground := Ground.chain }, { on := 15, ground := Ground.guard }], guard := some (15, true) }) rfl (fun K hK => ?_) (AllReadyH.nil)
            go_simp
            go_at_call 10
            refine (implItemsValid_at _ _ _ _ _ _ (by simp) HWR HO17.out.itemsAt (by first | omega | simp) HPW.out).mono ?_
            rintro e w19 ⟨rfl, hB19⟩
            have HS19 := hide (next hH21h.out hB19)
            clear hB19
            go_wp2_with fail
            refine hK.out _ _ HS19.out (fun hH22 => ?_)
            clear hK K
            try simp only [Act.put, List.setIfInBounds_toArray, List.set_cons_zero, List.set_cons_succ]
            have hH22h := hide (show Below w4.heap.size w4 _ from hH22)
            clear hH22
            refine wpAnyH_take (i := 23) (oi := { dst := some 45, op := Op.unOp UnOp.not 4 (Operand.tmp 44), type := 4, pos := "laws.go:102", after := #[{ on := 22, ground := Ground.data }, { on := 15, ground := Ground.guard }], guard := some (15, true) }) (v := ?v126) rfl (by kernel_rfl) (by kernel_rfl) (by kernel_rfl) (fun _ _ _ h => h) (Or.inl ⟨by rfl, ?hy126⟩) hH22h.out ?rest126
            case hy126 => (intro w9 hS9; go_simp; (try with_reducible rfl))
            simp only [Act.put, List.setIfInBounds_toArray, List.set_cons_zero, List.set_cons_succ]
            refine wpAnyH_take (i := 24) (oi := { dst := some 46, op := Op.pick (Operand.tmp 37) (Operand.tmp 45) (Operand.const (Value.bool false)), type := 4, pos := "laws.go:102", after := #[{ on := 15, ground := Ground.data }, { on := 23, ground := Ground.data }], guard := none }) (v := ?v127) rfl (by kernel_rfl) (by kernel_rfl) (by kernel_rfl) (fun _ _ _ h => h) (Or.inl ⟨by rfl, ?hy127⟩) hH22h.out ?rest127
            case hy127 => (intro w9 hS9; go_simp; (try with_reducible rfl))
            simp only [Act.put, List.setIfInBounds_toArray, List.set_cons_zero, List.set_cons_succ]
            refine wpAnyH_take (i := 25) (oi := { dst := some 47, op := Op.move (Operand.tmp 46), type := 4, pos := "laws.go:102", after := #[{ on := 24, ground := Ground.data }, { on := 22, ground := Ground.chain }], guard := none }) (v := ?v128) rfl (by kernel_rfl) (by kernel_rfl) (by kernel_rfl) (fun _ _ _ h => h) (Or.inl ⟨by rfl, ?hy128⟩) hH22h.out ?rest128
            case hy128 => (intro w9 hS9; go_simp; (try with_reducible rfl))
            simp only [Act.put, List.setIfInBounds_toArray, List.set_cons_zero, List.set_cons_succ]
            refine wpAnyH_ready (rs := [26]) (by kernel_rfl) (by simp) ?_
            refine AllReadyH.cons (o := { dst := some 48, op := Op.call { callee := Callee.value (Operand.func 10), args := #[Operand.const (Value.slice none 0 0)], argTypes := #[31] }, type := 4, pos := "laws.go:102", after := #[{ on := 25, ground := Ground.chain }, { on := 25, ground := Ground.guard }], guard := some (25, true) }) rfl (fun K hK => ?_) (AllReadyH.nil)
            go_simp
            go_at_call 10
            refine (implItemsValid_at none 0 0 [] true _ rfl (hide rfl) (fun i x hx => by simp at hx) (by omega) (fun x hx => by simp at hx)).mono ?_
            rintro e w20 ⟨rfl, hB20⟩
            have HS20 := hide (next hH22h.out hB20)
            clear hB20
            go_wp2_with fail
            refine hK.out _ _ HS20.out (fun hH26 => ?_)
            clear hK K
            try simp only [Act.put, List.setIfInBounds_toArray, List.set_cons_zero, List.set_cons_succ]
            have hH26h := hide (show Below w4.heap.size w4 _ from hH26)
            clear hH26
            refine wpAnyH_take (i := 27) (oi := { dst := some 49, op := Op.pick (Operand.tmp 47) (Operand.tmp 48) (Operand.const (Value.bool false)), type := 4, pos := "laws.go:102", after := #[{ on := 25, ground := Ground.data }, { on := 26, ground := Ground.data }], guard := none }) (v := ?v129) rfl (by kernel_rfl) (by kernel_rfl) (by kernel_rfl) (fun _ _ _ h => h) (Or.inl ⟨by rfl, ?hy129⟩) hH26h.out ?rest129
            case hy129 => (intro w9 hS9; go_simp; (try with_reducible rfl))
            simp only [Act.put, List.setIfInBounds_toArray, List.set_cons_zero, List.set_cons_succ]
            refine wpAnyH_take (i := 28) (oi := { dst := some 50, op := Op.move (Operand.tmp 49), type := 4, pos := "laws.go:102", after := #[{ on := 27, ground := Ground.data }, { on := 26, ground := Ground.chain }], guard := none }) (v := ?v130) rfl (by kernel_rfl) (by kernel_rfl) (by kernel_rfl) (fun _ _ _ h => h) (Or.inl ⟨by rfl, ?hy130⟩) hH26h.out ?rest130
            case hy130 => (intro w9 hS9; go_simp; (try with_reducible rfl))
            simp only [Act.put, List.setIfInBounds_toArray, List.set_cons_zero, List.set_cons_succ]
            refine wpAnyH_ready (rs := [29]) (by kernel_rfl) (by simp) ?_
            refine AllReadyH.cons (o := { dst := some 51, op := Op.call { callee := Callee.value (Operand.func 8), args := #[], argTypes := #[] }, type := 4, pos := "laws.go:102", after := #[{ on := 28, ground := Ground.chain }, { on := 28, ground := Ground.guard }], guard := some (28, true) }) rfl (fun K hK => ?_) (AllReadyH.nil)
            go_simp
            go_at_call 8
            refine (alive_any _).mono ?_
            rintro e w6 ⟨rfl, hB6⟩
            have HB6 := hide (next hH26h.out hB6)
            clear hB6
            go_wp2_with fail
            refine hK.out _ _ HB6.out (fun hH29 => ?_)
            clear hK K
            try simp only [Act.put, List.setIfInBounds_toArray, List.set_cons_zero, List.set_cons_succ]
            have hH29h := hide (show Below w4.heap.size w4 _ from hH29)
            clear hH29
            refine wpAnyH_take (i := 30) (oi := { dst := some 52, op := Op.pick (Operand.tmp 50) (Operand.tmp 51) (Operand.const (Value.bool false)), type := 4, pos := "laws.go:102", after := #[{ on := 28, ground := Ground.data }, { on := 29, ground := Ground.data }], guard := none }) (v := ?v131) rfl (by kernel_rfl) (by kernel_rfl) (by kernel_rfl) (fun _ _ _ h => h) (Or.inl ⟨by rfl, ?hy131⟩) hH29h.out ?rest131
            case hy131 => (intro w9 hS9; go_simp; (try with_reducible rfl))
            simp only [Act.put, List.setIfInBounds_toArray, List.set_cons_zero, List.set_cons_succ]
            refine wpAnyH_take (i := 31) (oi := { dst := some 2, op := Op.assign (Operand.tmp 52), type := 4, pos := "laws.go:102", after := #[{ on := 30, ground := Ground.data }, { on := 29, ground := Ground.chain }, { on := 0, ground := Ground.phase }, { on := 1, ground := Ground.phase }, { on := 2, ground := Ground.phase }, { on := 3, ground := Ground.phase }, { on := 4, ground := Ground.phase }, { on := 5, ground := Ground.phase }, { on := 6, ground := Ground.phase }, { on := 7, ground := Ground.phase }, { on := 8, ground := Ground.phase }, { on := 9, ground := Ground.phase }, { on := 10, ground := Ground.phase }, { on := 11, ground := Ground.phase }, { on := 12, ground := Ground.phase }, { on := 13, ground := Ground.phase }, { on := 14, ground := Ground.phase }, { on := 15, ground := Ground.phase }, { on := 16, ground := Ground.phase }, { on := 17, ground := Ground.phase }, { on := 18, ground := Ground.phase }, { on := 19, ground := Ground.phase }, { on := 20, ground := Ground.phase }, { on := 21, ground := Ground.phase }, { on := 22, ground := Ground.phase }, { on := 23, ground := Ground.phase }, { on := 24, ground := Ground.phase }, { on := 25, ground := Ground.phase }, { on := 26, ground := Ground.phase }, { on := 27, ground := Ground.phase }, { on := 28, ground := Ground.phase }, { on := 29, ground := Ground.phase }, { on := 30, ground := Ground.phase }], guard := none }) (v := ?v132) rfl (by kernel_rfl) (by kernel_rfl) (by kernel_rfl) (fun _ _ _ h => h) (Or.inl ⟨by rfl, ?hy132⟩) hH29h.out ?rest132
            case hy132 => (intro w9 hS9; go_simp; (try with_reducible rfl))
            simp only [Act.put, List.setIfInBounds_toArray, List.set_cons_zero, List.set_cons_succ]
            refine wpAnyH_done (by kernel_rfl) ?_ _
            refine NoPanic.normal ?_
            go_wp2_with fail
            go_ret
            exact ⟨rfl, next hb4 HB6.out⟩
        ·
          go_simp
          have HG16 : Hid ((w5.alloc (.cells #[.int .i64 1, .slice (some ⟨w3.heap.size, 0, none⟩) 1 1, .int .i64 0] 38)).heap[w5.heap.size]? = some (.cells #[.int .i64 1, .slice (some ⟨w3.heap.size, 0, none⟩) 1 1, .int .i64 0] 38)) := hide (by exact heap_alloc_new w5 _)
          refine hK.out _ _ (Below.alloc hH0h.out (Below.size hH0h.out) _) (fun hH20 => ?_)
          clear hK K
          try simp only [Act.put, List.setIfInBounds_toArray, List.set_cons_zero, List.set_cons_succ]
          have hH20h := hide (show Below w4.heap.size w4 _ from hH20)
          clear hH20
          refine wpAnyH_ready (rs := [16]) (by kernel_rfl) (by simp) ?_
          refine AllReadyH.cons (o := { dst := some 38, op := Op.buildSlice 31 0 #[], type := 31, pos := "laws.go:102", after := #[{ on := 15, ground := Ground.guard }], guard := some (15, true) }) rfl (fun K hK => ?_) (AllReadyH.nil)
          go_simp
          have HO10 : Hid (ItemSl ((w5.alloc (.cells #[.int .i64 1, .slice (some ⟨w3.heap.size, 0, none⟩) 1 1, .int .i64 0] 38)).alloc (.cells #[] 38)) w5.heap.size (.slice (some ⟨(w5.heap.size + 1), 0, none⟩) 0 0) []) := hide ⟨[], by rw [show w5.heap.size + 1 = (w5.alloc (.cells #[.int .i64 1, .slice (some ⟨w3.heap.size, 0, none⟩) 1 1, .int .i64 0] 38)).heap.size by simp]; exact World.ownsRow_lit (w5.alloc (.cells #[.int .i64 1, .slice (some ⟨w3.heap.size, 0, none⟩) 1 1, .int .i64 0] 38)) #[] 0 (by first | exact Nat.le_refl _ | (simp; done) | (simp <;> omega)) (by unfold maxLen; omega) rfl, fun i x hx => by simp at hx⟩
          have HG10 : Hid (((w5.alloc (.cells #[.int .i64 1, .slice (some ⟨w3.heap.size, 0, none⟩) 1 1, .int .i64 0] 38)).alloc (.cells #[] 38)).heap[w5.heap.size]? = some (.cells #[.int .i64 1, .slice (some ⟨w3.heap.size, 0, none⟩) 1 1, .int .i64 0] 38)) := hide (((World.grownBy_alloc (w5.alloc (.cells #[.int .i64 1, .slice (some ⟨w3.heap.size, 0, none⟩) 1 1, .int .i64 0] 38)) _ none).block _ (by simp) (by simp)).trans HG16.out)
          refine hK.out _ _ (Below.alloc hH20h.out (Below.size hH20h.out) _) (fun hH16 => ?_)
          clear hK K
          try simp only [Act.put, List.setIfInBounds_toArray, List.set_cons_zero, List.set_cons_succ]
          have hH16h := hide (show Below w4.heap.size w4 _ from hH16)
          clear hH16
          refine wpAnyH_ready (rs := [18]) (by kernel_rfl) (by simp) ?_
          refine AllReadyH.cons (o := { dst := some 40, op := Op.call { callee := Callee.builtin Builtin.append, args := #[Operand.tmp 38, Operand.tmp 39], argTypes := #[31, 31] }, type := 31, pos := "laws.go:102", after := #[{ on := 16, ground := Ground.data }, { on := 17, ground := Ground.data }, { on := 15, ground := Ground.chain }, { on := 15, ground := Ground.guard }], guard := some (15, true) }) rfl (fun K hK => ?_) (AllReadyH.nil)
          go_simp
          refine hK.out _ _ hH16h.out (fun hH18 => ?_)
          clear hK K
          try simp only [Act.put, List.setIfInBounds_toArray, List.set_cons_zero, List.set_cons_succ]
          have hH18h := hide (show Below w4.heap.size w4 _ from hH18)
          clear hH18
          refine wpAnyH_ready (rs := [21]) (by kernel_rfl) (by simp) ?_
          refine AllReadyH.cons (o := { dst := some 43, op := Op.call { callee := Callee.builtin Builtin.append, args := #[Operand.tmp 40, Operand.tmp 42], argTypes := #[31, 31] }, type := 31, pos := "laws.go:102", after := #[{ on := 18, ground := Ground.data }, { on := 20, ground := Ground.data }, { on := 18, ground := Ground.chain }, { on := 15, ground := Ground.guard }], guard := some (15, true) }) rfl (fun K hK => ?_) (AllReadyH.nil)
          refine step_push_item (by rfl) _ _ (by rfl) w5.heap.size (.slice (some ⟨(w5.heap.size + 1), 0, none⟩) 0 0) [] (by rfl) HO10.out (w5.heap.size) ⟨1, [⟨([] : List Item).length, 1⟩], 0⟩ (some ⟨w3.heap.size, 0, none⟩) 1 (by rfl) HG10.out (parts_lit ((Below.block hH18h.out _ hPl).trans HPT.out)).1 (parts_lit ((Below.block hH18h.out _ hPl).trans HPT.out)).2 (by first | omega | simp) (by first | exact HZ12 | (simp <;> omega)) ?_
          intro g17 cap17 w17 hown17 hgrow17
          have HS17 : Hid (Below w4.heap.size w4 w17) := hide (Below.grown hH18h.out hgrow17 (Below.size hH18h.out) (fun k hk => Nat.le_trans hz5 (ItemSl.own_lt HO10.out k hk).1))
          have HO17 := hide hown17
          clear hown17 hgrow17
          refine hK.out _ _ HS17.out (fun hH21 => ?_)
          clear hK K
          try simp only [Act.put, List.setIfInBounds_toArray, List.set_cons_zero, List.set_cons_succ]
          have hH21h := hide (show Below w4.heap.size w4 _ from hH21)
          clear hH21
          refine wpAnyH_ready (rs := [22]) (by kernel_rfl) (by simp) ?_
          refine AllReadyH.cons (o := { dst := some 44, op := Op.call { callee := Callee.value (Operand.func 10), args := #[Operand.tmp 43], argTypes := #[31] }, type := 4, pos := "laws.go:102", after := #[{ on := 21, ground := Ground.data }, { on := 21, ground := Ground.chain }, { on := 15, ground := Ground.guard }], guard := some (15, true) }) rfl (fun K hK => ?_) (AllReadyH.nil)
          go_simp
          go_at_call 10
          refine (implItemsValid_at _ _ _ _ _ _ (by simp) HWR HO17.out.itemsAt (by first | omega | simp) HPW.out).mono ?_
          rintro e w19 ⟨rfl, hB19⟩
          have HS19 := hide (next hH21h.out hB19)
          clear hB19
          go_wp2_with fail
          refine hK.out _ _ HS19.out (fun hH22 => ?_)
          clear hK K
          try simp only [Act.put, List.setIfInBounds_toArray, List.set_cons_zero, List.set_cons_succ]
          have hH22h := hide (show Below w4.heap.size w4 _ from hH22)
          clear hH22
          refine wpAnyH_take (i := 23) (oi := { dst := some 45, op := Op.unOp UnOp.not 4 (Operand.tmp 44), type := 4, pos := "laws.go:102", after := #[{ on := 22, ground := Ground.data }, { on := 15, ground := Ground.guard }], guard := some (15, true) }) (v := ?v133) rfl (by kernel_rfl) (by kernel_rfl) (by kernel_rfl) (fun _ _ _ h => h) (Or.inl ⟨by rfl, ?hy133⟩) hH22h.out ?rest133
          case hy133 => (intro w9 hS9; go_simp; (try with_reducible rfl))
          simp only [Act.put, List.setIfInBounds_toArray, List.set_cons_zero, List.set_cons_succ]
          refine wpAnyH_take (i := 24) (oi := { dst := some 46, op := Op.pick (Operand.tmp 37) (Operand.tmp 45) (Operand.const (Value.bool false)), type := 4, pos := "laws.go:102", after := #[{ on := 15, ground := Ground.data }, { on := 23, ground := Ground.data }], guard := none }) (v := ?v134) rfl (by kernel_rfl) (by kernel_rfl) (by kernel_rfl) (fun _ _ _ h => h) (Or.inl ⟨by rfl, ?hy134⟩) hH22h.out ?rest134
          case hy134 => (intro w9 hS9; go_simp; (try with_reducible rfl))
          simp only [Act.put, List.setIfInBounds_toArray, List.set_cons_zero, List.set_cons_succ]
          refine wpAnyH_take (i := 25) (oi := { dst := some 47, op := Op.move (Operand.tmp 46), type := 4, pos := "laws.go:102", after := #[{ on := 24, ground := Ground.data }, { on := 22, ground := Ground.chain }], guard := none }) (v := ?v135) rfl (by kernel_rfl) (by kernel_rfl) (by kernel_rfl) (fun _ _ _ h => h) (Or.inl ⟨by rfl, ?hy135⟩) hH22h.out ?rest135
          case hy135 => (intro w9 hS9; go_simp; (try with_reducible rfl))
          simp only [Act.put, List.setIfInBounds_toArray, List.set_cons_zero, List.set_cons_succ]
          refine wpAnyH_ready (rs := [26]) (by kernel_rfl) (by simp) ?_
          refine AllReadyH.cons (o := { dst := some 48, op := Op.call { callee := Callee.value (Operand.func 10), args := #[Operand.const (Value.slice none 0 0)], argTypes := #[31] }, type := 4, pos := "laws.go:102", after := #[{ on := 25, ground := Ground.chain }, { on := 25, ground := Ground.guard }], guard := some (25, true) }) rfl (fun K hK => ?_) (AllReadyH.nil)
          go_simp
          go_at_call 10
          refine (implItemsValid_at none 0 0 [] true _ rfl (hide rfl) (fun i x hx => by simp at hx) (by omega) (fun x hx => by simp at hx)).mono ?_
          rintro e w20 ⟨rfl, hB20⟩
          have HS20 := hide (next hH22h.out hB20)
          clear hB20
          go_wp2_with fail
          refine hK.out _ _ HS20.out (fun hH26 => ?_)
          clear hK K
          try simp only [Act.put, List.setIfInBounds_toArray, List.set_cons_zero, List.set_cons_succ]
          have hH26h := hide (show Below w4.heap.size w4 _ from hH26)
          clear hH26
          refine wpAnyH_take (i := 27) (oi := { dst := some 49, op := Op.pick (Operand.tmp 47) (Operand.tmp 48) (Operand.const (Value.bool false)), type := 4, pos := "laws.go:102", after := #[{ on := 25, ground := Ground.data }, { on := 26, ground := Ground.data }], guard := none }) (v := ?v136) rfl (by kernel_rfl) (by kernel_rfl) (by kernel_rfl) (fun _ _ _ h => h) (Or.inl ⟨by rfl, ?hy136⟩) hH26h.out ?rest136
          case hy136 => (intro w9 hS9; go_simp; (try with_reducible rfl))
          simp only [Act.put, List.setIfInBounds_toArray, List.set_cons_zero, List.set_cons_succ]
          refine wpAnyH_take (i := 28) (oi := { dst := some 50, op := Op.move (Operand.tmp 49), type := 4, pos := "laws.go:102", after := #[{ on := 27, ground := Ground.data }, { on := 26, ground := Ground.chain }], guard := none }) (v := ?v137) rfl (by kernel_rfl) (by kernel_rfl) (by kernel_rfl) (fun _ _ _ h => h) (Or.inl ⟨by rfl, ?hy137⟩) hH26h.out ?rest137
          case hy137 => (intro w9 hS9; go_simp; (try with_reducible rfl))
          simp only [Act.put, List.setIfInBounds_toArray, List.set_cons_zero, List.set_cons_succ]
          refine wpAnyH_ready (rs := [29]) (by kernel_rfl) (by simp) ?_
          refine AllReadyH.cons (o := { dst := some 51, op := Op.call { callee := Callee.value (Operand.func 8), args := #[], argTypes := #[] }, type := 4, pos := "laws.go:102", after := #[{ on := 28, ground := Ground.chain }, { on := 28, ground := Ground.guard }], guard := some (28, true) }) rfl (fun K hK => ?_) (AllReadyH.nil)
          go_simp
          go_at_call 8
          refine (alive_any _).mono ?_
          rintro e w6 ⟨rfl, hB6⟩
          have HB6 := hide (next hH26h.out hB6)
          clear hB6
          go_wp2_with fail
          refine hK.out _ _ HB6.out (fun hH29 => ?_)
          clear hK K
          try simp only [Act.put, List.setIfInBounds_toArray, List.set_cons_zero, List.set_cons_succ]
          have hH29h := hide (show Below w4.heap.size w4 _ from hH29)
          clear hH29
          refine wpAnyH_take (i := 30) (oi := { dst := some 52, op := Op.pick (Operand.tmp 50) (Operand.tmp 51) (Operand.const (Value.bool false)), type := 4, pos := "laws.go:102", after := #[{ on := 28, ground := Ground.data }, { on := 29, ground := Ground.data }], guard := none }) (v := ?v138) rfl (by kernel_rfl) (by kernel_rfl) (by kernel_rfl) (fun _ _ _ h => h) (Or.inl ⟨by rfl, ?hy138⟩) hH29h.out ?rest138
          case hy138 => (intro w9 hS9; go_simp; (try with_reducible rfl))
          simp only [Act.put, List.setIfInBounds_toArray, List.set_cons_zero, List.set_cons_succ]
          refine wpAnyH_take (i := 31) (oi := { dst := some 2, op := Op.assign (Operand.tmp 52), type := 4, pos := "laws.go:102", after := #[{ on := 30, ground := Ground.data }, { on := 29, ground := Ground.chain }, { on := 0, ground := Ground.phase }, { on := 1, ground := Ground.phase }, { on := 2, ground := Ground.phase }, { on := 3, ground := Ground.phase }, { on := 4, ground := Ground.phase }, { on := 5, ground := Ground.phase }, { on := 6, ground := Ground.phase }, { on := 7, ground := Ground.phase }, { on := 8, ground := Ground.phase }, { on := 9, ground := Ground.phase }, { on := 10, ground := Ground.phase }, { on := 11, ground := Ground.phase }, { on := 12, ground := Ground.phase }, { on := 13, ground := Ground.phase }, { on := 14, ground := Ground.phase }, { on := 15, ground := Ground.phase }, { on := 16, ground := Ground.phase }, { on := 17, ground := Ground.phase }, { on := 18, ground := Ground.phase }, { on := 19, ground := Ground.phase }, { on := 20, ground := Ground.phase }, { on := 21, ground := Ground.phase }, { on := 22, ground := Ground.phase }, { on := 23, ground := Ground.phase }, { on := 24, ground := Ground.phase }, { on := 25, ground := Ground.phase }, { on := 26, ground := Ground.phase }, { on := 27, ground := Ground.phase }, { on := 28, ground := Ground.phase }, { on := 29, ground := Ground.phase }, { on := 30, ground := Ground.phase }], guard := none }) (v := ?v139) rfl (by kernel_rfl) (by kernel_rfl) (by kernel_rfl) (fun _ _ _ h => h) (Or.inl ⟨by rfl, ?hy139⟩) hH29h.out ?rest139
          case hy139 => (intro w9 hS9; go_simp; (try with_reducible rfl))
          simp only [Act.put, List.setIfInBounds_toArray, List.set_cons_zero, List.set_cons_succ]
          refine wpAnyH_done (by kernel_rfl) ?_ _
          refine NoPanic.normal ?_
          go_wp2_with fail
          go_ret
          exact ⟨rfl, next hb4 HB6.out⟩
      | true =>
        refine wp_region_noPanic ?_
        refine wp_region_held_drew (S := fun W => Below w4.heap.size w4 W) (by kernel_rfl) (by go_grown) (fun hH0 => ?_)
        have hH0h := hide (show Below w4.heap.size w4 _ from hH0)
        clear hH0
        obtain ⟨w5, hw5⟩ : ∃ w5, World.drew w4 = w5 := ⟨_, rfl⟩
        rw [hw5] at hH0h ⊢
        have hz5 : w4.heap.size ≤ w5.heap.size := by rw [← hw5]; exact Nat.le_refl _
        clear hw5
        refine wpAnyH_take (i := 0) (oi := { dst := some 22, op := Op.move (Operand.tmp 4), type := 4, pos := "laws.go:102", after := #[], guard := none }) (v := ?v140) rfl (by kernel_rfl) (by kernel_rfl) (by kernel_rfl) (fun _ _ _ h => h) (Or.inl ⟨by rfl, ?hy140⟩) hH0h.out ?rest140
        case hy140 => (intro w9 hS9; go_simp; (try with_reducible rfl))
        simp only [Act.put, List.setIfInBounds_toArray, List.set_cons_zero, List.set_cons_succ]
        refine wpAnyH_take (i := 1) (oi := { dst := some 23, op := Op.unOp UnOp.not 4 (Operand.tmp 22), type := 4, pos := "laws.go:102", after := #[{ on := 0, ground := Ground.data }], guard := none }) (v := ?v141) rfl (by kernel_rfl) (by kernel_rfl) (by kernel_rfl) (fun _ _ _ h => h) (Or.inl ⟨by rfl, ?hy141⟩) hH0h.out ?rest141
        case hy141 => (intro w9 hS9; go_simp; (try with_reducible rfl))
        simp only [Act.put, List.setIfInBounds_toArray, List.set_cons_zero, List.set_cons_succ]
        refine wpAnyH_take (i := 2) (oi := { dst := some 24, op := Op.move (Operand.tmp 23), type := 4, pos := "laws.go:102", after := #[{ on := 1, ground := Ground.data }], guard := none }) (v := ?v142) rfl (by kernel_rfl) (by kernel_rfl) (by kernel_rfl) (fun _ _ _ h => h) (Or.inl ⟨by rfl, ?hy142⟩) hH0h.out ?rest142
        case hy142 => (intro w9 hS9; go_simp; (try with_reducible rfl))
        simp only [Act.put, List.setIfInBounds_toArray, List.set_cons_zero, List.set_cons_succ]
        refine wpAnyH_take (i := 3) (oi := { dst := some 25, op := Op.move (Operand.tmp 3), type := 31, pos := "laws.go:102", after := #[{ on := 2, ground := Ground.guard }], guard := some (2, false) }) (v := ?v143) rfl (by kernel_rfl) (by kernel_rfl) (by kernel_rfl) (fun _ _ _ h => h) (Or.inl ⟨by rfl, ?hy143⟩) hH0h.out ?rest143
        case hy143 => (intro w9 hS9; go_simp; (try with_reducible rfl))
        simp only [Act.put, List.setIfInBounds_toArray, List.set_cons_zero, List.set_cons_succ]
        refine wpAnyH_take (i := 4) (oi := { dst := some 26, op := Op.call { callee := Callee.builtin Builtin.len, args := #[Operand.tmp 25], argTypes := #[31] }, type := 3, pos := "laws.go:102", after := #[{ on := 3, ground := Ground.data }, { on := 2, ground := Ground.guard }], guard := some (2, false) }) (v := ?v144) rfl (by kernel_rfl) (by kernel_rfl) (by kernel_rfl) (fun _ _ _ h => h) (Or.inl ⟨by rfl, ?hy144⟩) hH0h.out ?rest144
        case hy144 => (intro w9 hS9; go_simp; (try with_reducible rfl))
        simp only [Act.put, List.setIfInBounds_toArray, List.set_cons_zero, List.set_cons_succ]
        refine wpAnyH_take (i := 5) (oi := { dst := some 27, op := Op.binOp BinOp.eql 3 (Operand.tmp 26) (Operand.const (Value.int IntKind.i64 0)) 3, type := 4, pos := "laws.go:102", after := #[{ on := 4, ground := Ground.data }, { on := 2, ground := Ground.guard }], guard := some (2, false) }) (v := ?v145) rfl (by kernel_rfl) (by kernel_rfl) (by kernel_rfl) (fun _ _ _ h => h) (Or.inl ⟨by rfl, ?hy145⟩) hH0h.out ?rest145
        case hy145 => (intro w9 hS9; go_simp; (try with_reducible rfl))
        simp only [Act.put, List.setIfInBounds_toArray, List.set_cons_zero, List.set_cons_succ]
        refine wpAnyH_take (i := 6) (oi := { dst := some 28, op := Op.pick (Operand.tmp 24) (Operand.const (Value.bool true)) (Operand.tmp 27), type := 4, pos := "laws.go:102", after := #[{ on := 2, ground := Ground.data }, { on := 5, ground := Ground.data }], guard := none }) (v := ?v146) rfl (by kernel_rfl) (by kernel_rfl) (by kernel_rfl) (fun _ _ _ h => h) (Or.inl ⟨by rfl, ?hy146⟩) hH0h.out ?rest146
        case hy146 => (intro w9 hS9; go_simp; (try with_reducible rfl))
        simp only [Act.put, List.setIfInBounds_toArray, List.set_cons_zero, List.set_cons_succ]
        refine wpAnyH_take (i := 7) (oi := { dst := some 29, op := Op.move (Operand.tmp 28), type := 4, pos := "laws.go:102", after := #[{ on := 6, ground := Ground.data }, { on := 2, ground := Ground.chain }], guard := none }) (v := ?v147) rfl (by kernel_rfl) (by kernel_rfl) (by kernel_rfl) (fun _ _ _ h => h) (Or.inl ⟨by rfl, ?hy147⟩) hH0h.out ?rest147
        case hy147 => (intro w9 hS9; go_simp; (try with_reducible rfl))
        simp only [Act.put, List.setIfInBounds_toArray, List.set_cons_zero, List.set_cons_succ]
        refine wpAnyH_take (i := 8) (oi := { dst := some 30, op := Op.move (Operand.tmp 3), type := 31, pos := "laws.go:102", after := #[{ on := 7, ground := Ground.guard }], guard := some (7, false) }) (v := undef) rfl (by kernel_rfl) (by kernel_rfl) (by kernel_rfl) (fun _ _ _ h => h) (Or.inr ⟨by rfl, rfl⟩) hH0h.out ?_
        simp only [Act.put, List.setIfInBounds_toArray, List.set_cons_zero, List.set_cons_succ]
        refine wpAnyH_take (i := 9) (oi := { dst := some 31, op := Op.move (Operand.tmp 3), type := 31, pos := "laws.go:102", after := #[{ on := 7, ground := Ground.guard }], guard := some (7, false) }) (v := undef) rfl (by kernel_rfl) (by kernel_rfl) (by kernel_rfl) (fun _ _ _ h => h) (Or.inr ⟨by rfl, rfl⟩) hH0h.out ?_
        simp only [Act.put, List.setIfInBounds_toArray, List.set_cons_zero, List.set_cons_succ]
        refine wpAnyH_take (i := 10) (oi := { dst := some 32, op := Op.call { callee := Callee.builtin Builtin.len, args := #[Operand.tmp 31], argTypes := #[31] }, type := 3, pos := "laws.go:102", after := #[{ on := 9, ground := Ground.data }, { on := 7, ground := Ground.guard }], guard := some (7, false) }) (v := undef) rfl (by kernel_rfl) (by kernel_rfl) (by kernel_rfl) (fun _ _ _ h => h) (Or.inr ⟨by rfl, rfl⟩) hH0h.out ?_
        simp only [Act.put, List.setIfInBounds_toArray, List.set_cons_zero, List.set_cons_succ]
        refine wpAnyH_take (i := 11) (oi := { dst := some 33, op := Op.binOp BinOp.sub 3 (Operand.tmp 32) (Operand.const (Value.int IntKind.i64 1)) 3, type := 3, pos := "laws.go:102", after := #[{ on := 10, ground := Ground.data }, { on := 7, ground := Ground.guard }], guard := some (7, false) }) (v := undef) rfl (by kernel_rfl) (by kernel_rfl) (by kernel_rfl) (fun _ _ _ h => h) (Or.inr ⟨by rfl, rfl⟩) hH0h.out ?_
        simp only [Act.put, List.setIfInBounds_toArray, List.set_cons_zero, List.set_cons_succ]
        refine wpAnyH_take (i := 12) (oi := { dst := some 34, op := Op.slice 31 (Operand.tmp 30) none (some (Operand.tmp 33)) none, type := 31, pos := "laws.go:102", after := #[{ on := 8, ground := Ground.data }, { on := 11, ground := Ground.data }, { on := 7, ground := Ground.guard }], guard := some (7, false) }) (v := undef) rfl (by kernel_rfl) (by kernel_rfl) (by kernel_rfl) (fun _ _ _ h => h) (Or.inr ⟨by rfl, rfl⟩) hH0h.out ?_
        simp only [Act.put, List.setIfInBounds_toArray, List.set_cons_zero, List.set_cons_succ]
        refine wpAnyH_take (i := 13) (oi := { dst := some 35, op := Op.call { callee := Callee.value (Operand.func 10), args := #[Operand.tmp 34], argTypes := #[31] }, type := 4, pos := "laws.go:102", after := #[{ on := 12, ground := Ground.data }, { on := 7, ground := Ground.chain }, { on := 7, ground := Ground.guard }], guard := some (7, false) }) (v := undef) rfl (by kernel_rfl) (by kernel_rfl) (by kernel_rfl) (fun _ _ _ h => h) (Or.inr ⟨by rfl, rfl⟩) hH0h.out ?_
        simp only [Act.put, List.setIfInBounds_toArray, List.set_cons_zero, List.set_cons_succ]
        refine wpAnyH_take (i := 14) (oi := { dst := some 36, op := Op.pick (Operand.tmp 29) (Operand.const (Value.bool true)) (Operand.tmp 35), type := 4, pos := "laws.go:102", after := #[{ on := 7, ground := Ground.data }, { on := 13, ground := Ground.data }], guard := none }) (v := ?v154) rfl (by kernel_rfl) (by kernel_rfl) (by kernel_rfl) (fun _ _ _ h => h) (Or.inl ⟨by rfl, ?hy154⟩) hH0h.out ?rest154
        case hy154 => (intro w9 hS9; go_simp; (try with_reducible rfl))
        simp only [Act.put, List.setIfInBounds_toArray, List.set_cons_zero, List.set_cons_succ]
        refine wpAnyH_take (i := 15) (oi := { dst := some 37, op := Op.move (Operand.tmp 36), type := 4, pos := "laws.go:102", after := #[{ on := 14, ground := Ground.data }, { on := 13, ground := Ground.chain }], guard := none }) (v := ?v155) rfl (by kernel_rfl) (by kernel_rfl) (by kernel_rfl) (fun _ _ _ h => h) (Or.inl ⟨by rfl, ?hy155⟩) hH0h.out ?rest155
        case hy155 => (intro w9 hS9; go_simp; (try with_reducible rfl))
        simp only [Act.put, List.setIfInBounds_toArray, List.set_cons_zero, List.set_cons_succ]
        refine wpAnyH_take (i := 17) (oi := { dst := some 39, op := Op.move (Operand.tmp 3), type := 31, pos := "laws.go:102", after := #[{ on := 15, ground := Ground.guard }], guard := some (15, true) }) (v := ?v156) rfl (by kernel_rfl) (by kernel_rfl) (by kernel_rfl) (fun _ _ _ h => h) (Or.inl ⟨by rfl, ?hy156⟩) hH0h.out ?rest156
        case hy156 => (intro w9 hS9; go_simp; (try with_reducible rfl))
        simp only [Act.put, List.setIfInBounds_toArray, List.set_cons_zero, List.set_cons_succ]
        refine wpAnyH_take (i := 19) (oi := { dst := some 41, op := Op.load 38 (Operand.tmp 5), type := 38, pos := "laws.go:102", after := #[{ on := 15, ground := Ground.guard }], guard := some (15, true) }) (v := ?v157) rfl (by kernel_rfl) (by kernel_rfl) (by kernel_rfl) (fun _ _ _ h => h) (Or.inl ⟨by rfl, ?hy157⟩) hH0h.out ?rest157
        case hy157 => (intro w9 hS9; have hc90 := (Below.cell (show Below w4.heap.size w4 w9 from hS9) hXl).trans hx0; have hc91 := (Below.cell (show Below w4.heap.size w4 w9 from hS9) hXl).trans hx1; have hc92 := (Below.cell (show Below w4.heap.size w4 w9 from hS9) hXl).trans hx2; go_simp; (try with_reducible rfl))
        simp only [Act.put, List.setIfInBounds_toArray, List.set_cons_zero, List.set_cons_succ]
        refine wpAnyH_ready (rs := [16, 20]) (by kernel_rfl) (by simp) ?_
        refine AllReadyH.cons (o := { dst := some 38, op := Op.buildSlice 31 0 #[], type := 31, pos := "laws.go:102", after := #[{ on := 15, ground := Ground.guard }], guard := some (15, true) }) rfl (fun K hK => ?_) (AllReadyH.cons (o := { dst := some 42, op := Op.buildSlice 31 1 #[(0, Operand.tmp 41)], type := 31, pos := "laws.go:102", after := #[{ on := 19, ground := Ground.data }, { on := 15, ground := Ground.guard }], guard := some (15, true) }) rfl (fun K hK => ?_) (AllReadyH.nil))
        ·
          go_simp
          have HO10 : Hid (ItemSl (w5.alloc (.cells #[] 38)) w5.heap.size (.slice (some ⟨w5.heap.size, 0, none⟩) 0 0) []) := hide ⟨[], by exact World.ownsRow_lit w5 #[] 0 (by first | exact Nat.le_refl _ | (simp; done) | (simp <;> omega)) (by unfold maxLen; omega) rfl, fun i x hx => by simp at hx⟩
          refine hK.out _ _ (Below.alloc hH0h.out (Below.size hH0h.out) _) (fun hH16 => ?_)
          clear hK K
          try simp only [Act.put, List.setIfInBounds_toArray, List.set_cons_zero, List.set_cons_succ]
          have hH16h := hide (show Below w4.heap.size w4 _ from hH16)
          clear hH16
          refine wpAnyH_ready (rs := [18, 20]) (by kernel_rfl) (by simp) ?_
          refine AllReadyH.cons (o := { dst := some 40, op := Op.call { callee := Callee.builtin Builtin.append, args := #[Operand.tmp 38, Operand.tmp 39], argTypes := #[31, 31] }, type := 31, pos := "laws.go:102", after := #[{ on := 16, ground := Ground.data }, { on := 17, ground := Ground.data }, { on := 15, ground := Ground.chain }, { on := 15, ground := Ground.guard }], guard := some (15, true) }) rfl (fun K hK => ?_) (AllReadyH.cons (o := { dst := some 42, op := Op.buildSlice 31 1 #[(0, Operand.tmp 41)], type := 31, pos := "laws.go:102", after := #[{ on := 19, ground := Ground.data }, { on := 15, ground := Ground.guard }], guard := some (15, true) }) rfl (fun K hK => ?_) (AllReadyH.nil))
          ·
            go_simp
            refine hK.out _ _ hH16h.out (fun hH18 => ?_)
            clear hK K
            try simp only [Act.put, List.setIfInBounds_toArray, List.set_cons_zero, List.set_cons_succ]
            have hH18h := hide (show Below w4.heap.size w4 _ from hH18)
            clear hH18
            refine wpAnyH_ready (rs := [20]) (by kernel_rfl) (by simp) ?_
            refine AllReadyH.cons (o := { dst := some 42, op := Op.buildSlice 31 1 #[(0, Operand.tmp 41)], type := 31, pos := "laws.go:102", after := #[{ on := 19, ground := Ground.data }, { on := 15, ground := Ground.guard }], guard := some (15, true) }) rfl (fun K hK => ?_) (AllReadyH.nil)
            go_simp
            have HO16 := hide (ItemSl.alloc HO10.out (.cells #[.int .i64 1, .slice (some ⟨w3.heap.size, 0, none⟩) 1 1, .int .i64 0] 38))
            have HG16 : Hid (((w5.alloc (.cells #[] 38)).alloc (.cells #[.int .i64 1, .slice (some ⟨w3.heap.size, 0, none⟩) 1 1, .int .i64 0] 38)).heap[(w5.heap.size + 1)]? = some (.cells #[.int .i64 1, .slice (some ⟨w3.heap.size, 0, none⟩) 1 1, .int .i64 0] 38)) := hide (by rw [show w5.heap.size + 1 = (w5.alloc (.cells #[] 38)).heap.size by simp]; exact heap_alloc_new (w5.alloc (.cells #[] 38)) _)
            refine hK.out _ _ (Below.alloc hH18h.out (Below.size hH18h.out) _) (fun hH20 => ?_)
            clear hK K
            try simp only [Act.put, List.setIfInBounds_toArray, List.set_cons_zero, List.set_cons_succ]
            have hH20h := hide (show Below w4.heap.size w4 _ from hH20)
            clear hH20
            refine wpAnyH_ready (rs := [21]) (by kernel_rfl) (by simp) ?_
            refine AllReadyH.cons (o := { dst := some 43, op := Op.call { callee := Callee.builtin Builtin.append, args := #[Operand.tmp 40, Operand.tmp 42], argTypes := #[31, 31] }, type := 31, pos := "laws.go:102", after := #[{ on := 18, ground := Ground.data }, { on := 20, ground := Ground.data }, { on := 18, ground := Ground.chain }, { on := 15, ground := Ground.guard }], guard := some (15, true) }) rfl (fun K hK => ?_) (AllReadyH.nil)
            refine step_push_item (by rfl) _ _ (by rfl) w5.heap.size (.slice (some ⟨w5.heap.size, 0, none⟩) 0 0) [] (by rfl) HO16.out ((w5.heap.size + 1)) ⟨1, [⟨([] : List Item).length, 1⟩], 0⟩ (some ⟨w3.heap.size, 0, none⟩) 1 (by rfl) HG16.out (parts_lit ((Below.block hH20h.out _ hPl).trans HPT.out)).1 (parts_lit ((Below.block hH20h.out _ hPl).trans HPT.out)).2 (by first | omega | simp) (by first | exact HZ12 | (simp <;> omega)) ?_
            intro g17 cap17 w17 hown17 hgrow17
            have HS17 : Hid (Below w4.heap.size w4 w17) := hide (Below.grown hH20h.out hgrow17 (Below.size hH20h.out) (fun k hk => Nat.le_trans hz5 (ItemSl.own_lt HO16.out k hk).1))
            have HO17 := hide hown17
            clear hown17 hgrow17
            refine hK.out _ _ HS17.out (fun hH21 => ?_)
            clear hK K
            try simp only [Act.put, List.setIfInBounds_toArray, List.set_cons_zero, List.set_cons_succ]
            have hH21h := hide (show Below w4.heap.size w4 _ from hH21)
            clear hH21
            refine wpAnyH_ready (rs := [22]) (by kernel_rfl) (by simp) ?_
            refine AllReadyH.cons (o := { dst := some 44, op := Op.call { callee := Callee.value (Operand.func 10), args := #[Operand.tmp 43], argTypes := #[31] }, type := 4, pos := "laws.go:102", after := #[{ on := 21, ground := Ground.data }, { on := 21, ground := Ground.chain }, { on := 15, ground := Ground.guard }], guard := some (15, true) }) rfl (fun K hK => ?_) (AllReadyH.nil)
            go_simp
            go_at_call 10
            refine (implItemsValid_at _ _ _ _ _ _ (by simp) HWR HO17.out.itemsAt (by first | omega | simp) HPW.out).mono ?_
            rintro e w19 ⟨rfl, hB19⟩
            have HS19 := hide (next hH21h.out hB19)
            clear hB19
            go_wp2_with fail
            refine hK.out _ _ HS19.out (fun hH22 => ?_)
            clear hK K
            try simp only [Act.put, List.setIfInBounds_toArray, List.set_cons_zero, List.set_cons_succ]
            have hH22h := hide (show Below w4.heap.size w4 _ from hH22)
            clear hH22
            refine wpAnyH_take (i := 23) (oi := { dst := some 45, op := Op.unOp UnOp.not 4 (Operand.tmp 44), type := 4, pos := "laws.go:102", after := #[{ on := 22, ground := Ground.data }, { on := 15, ground := Ground.guard }], guard := some (15, true) }) (v := ?v158) rfl (by kernel_rfl) (by kernel_rfl) (by kernel_rfl) (fun _ _ _ h => h) (Or.inl ⟨by rfl, ?hy158⟩) hH22h.out ?rest158
            case hy158 => (intro w9 hS9; go_simp; (try with_reducible rfl))
            simp only [Act.put, List.setIfInBounds_toArray, List.set_cons_zero, List.set_cons_succ]
            refine wpAnyH_take (i := 24) (oi := { dst := some 46, op := Op.pick (Operand.tmp 37) (Operand.tmp 45) (Operand.const (Value.bool false)), type := 4, pos := "laws.go:102", after := #[{ on := 15, ground := Ground.data }, { on := 23, ground := Ground.data }], guard := none }) (v := ?v159) rfl (by kernel_rfl) (by kernel_rfl) (by kernel_rfl) (fun _ _ _ h => h) (Or.inl ⟨by rfl, ?hy159⟩) hH22h.out ?rest159
            case hy159 => (intro w9 hS9; go_simp; (try with_reducible rfl))
            simp only [Act.put, List.setIfInBounds_toArray, List.set_cons_zero, List.set_cons_succ]
            refine wpAnyH_take (i := 25) (oi := { dst := some 47, op := Op.move (Operand.tmp 46), type := 4, pos := "laws.go:102", after := #[{ on := 24, ground := Ground.data }, { on := 22, ground := Ground.chain }], guard := none }) (v := ?v160) rfl (by kernel_rfl) (by kernel_rfl) (by kernel_rfl) (fun _ _ _ h => h) (Or.inl ⟨by rfl, ?hy160⟩) hH22h.out ?rest160
            case hy160 => (intro w9 hS9; go_simp; (try with_reducible rfl))
            simp only [Act.put, List.setIfInBounds_toArray, List.set_cons_zero, List.set_cons_succ]
            refine wpAnyH_ready (rs := [26]) (by kernel_rfl) (by simp) ?_
            refine AllReadyH.cons (o := { dst := some 48, op := Op.call { callee := Callee.value (Operand.func 10), args := #[Operand.const (Value.slice none 0 0)], argTypes := #[31] }, type := 4, pos := "laws.go:102", after := #[{ on := 25, ground := Ground.chain }, { on := 25, ground := Ground.guard }], guard := some (25, true) }) rfl (fun K hK => ?_) (AllReadyH.nil)
            go_simp
            go_at_call 10
            refine (implItemsValid_at none 0 0 [] true _ rfl (hide rfl) (fun i x hx => by simp at hx) (by omega) (fun x hx => by simp at hx)).mono ?_
            rintro e w20 ⟨rfl, hB20⟩
            have HS20 := hide (next hH22h.out hB20)
            clear hB20
            go_wp2_with fail
            refine hK.out _ _ HS20.out (fun hH26 => ?_)
            clear hK K
            try simp only [Act.put, List.setIfInBounds_toArray, List.set_cons_zero, List.set_cons_succ]
            have hH26h := hide (show Below w4.heap.size w4 _ from hH26)
            clear hH26
            refine wpAnyH_take (i := 27) (oi := { dst := some 49, op := Op.pick (Operand.tmp 47) (Operand.tmp 48) (Operand.const (Value.bool false)), type := 4, pos := "laws.go:102", after := #[{ on := 25, ground := Ground.data }, { on := 26, ground := Ground.data }], guard := none }) (v := ?v161) rfl (by kernel_rfl) (by kernel_rfl) (by kernel_rfl) (fun _ _ _ h => h) (Or.inl ⟨by rfl, ?hy161⟩) hH26h.out ?rest161
            case hy161 => (intro w9 hS9; go_simp; (try with_reducible rfl))
            simp only [Act.put, List.setIfInBounds_toArray, List.set_cons_zero, List.set_cons_succ]
            refine wpAnyH_take (i := 28) (oi := { dst := some 50, op := Op.move (Operand.tmp 49), type := 4, pos := "laws.go:102", after := #[{ on := 27, ground := Ground.data }, { on := 26, ground := Ground.chain }], guard := none }) (v := ?v162) rfl (by kernel_rfl) (by kernel_rfl) (by kernel_rfl) (fun _ _ _ h => h) (Or.inl ⟨by rfl, ?hy162⟩) hH26h.out ?rest162
            case hy162 => (intro w9 hS9; go_simp; (try with_reducible rfl))
            simp only [Act.put, List.setIfInBounds_toArray, List.set_cons_zero, List.set_cons_succ]
            refine wpAnyH_ready (rs := [29]) (by kernel_rfl) (by simp) ?_
            refine AllReadyH.cons (o := { dst := some 51, op := Op.call { callee := Callee.value (Operand.func 8), args := #[], argTypes := #[] }, type := 4, pos := "laws.go:102", after := #[{ on := 28, ground := Ground.chain }, { on := 28, ground := Ground.guard }], guard := some (28, true) }) rfl (fun K hK => ?_) (AllReadyH.nil)
            go_simp
            go_at_call 8
            refine (alive_any _).mono ?_
            rintro e w6 ⟨rfl, hB6⟩
            have HB6 := hide (next hH26h.out hB6)
            clear hB6
            go_wp2_with fail
            refine hK.out _ _ HB6.out (fun hH29 => ?_)
            clear hK K
            try simp only [Act.put, List.setIfInBounds_toArray, List.set_cons_zero, List.set_cons_succ]
            have hH29h := hide (show Below w4.heap.size w4 _ from hH29)
            clear hH29
            refine wpAnyH_take (i := 30) (oi := { dst := some 52, op := Op.pick (Operand.tmp 50) (Operand.tmp 51) (Operand.const (Value.bool false)), type := 4, pos := "laws.go:102", after := #[{ on := 28, ground := Ground.data }, { on := 29, ground := Ground.data }], guard := none }) (v := ?v163) rfl (by kernel_rfl) (by kernel_rfl) (by kernel_rfl) (fun _ _ _ h => h) (Or.inl ⟨by rfl, ?hy163⟩) hH29h.out ?rest163
            case hy163 => (intro w9 hS9; go_simp; (try with_reducible rfl))
            simp only [Act.put, List.setIfInBounds_toArray, List.set_cons_zero, List.set_cons_succ]
            refine wpAnyH_take (i := 31) (oi := { dst := some 2, op := Op.assign (Operand.tmp 52), type := 4, pos := "laws.go:102", after := #[{ on := 30, ground := Ground.data }, { on := 29, ground := Ground.chain }, { on := 0, ground := Ground.phase }, { on := 1, ground := Ground.phase }, { on := 2, ground := Ground.phase }, { on := 3, ground := Ground.phase }, { on := 4, ground := Ground.phase }, { on := 5, ground := Ground.phase }, { on := 6, ground := Ground.phase }, { on := 7, ground := Ground.phase }, { on := 8, ground := Ground.phase }, { on := 9, ground := Ground.phase }, { on := 10, ground := Ground.phase }, { on := 11, ground := Ground.phase }, { on := 12, ground := Ground.phase }, { on := 13, ground := Ground.phase }, { on := 14, ground := Ground.phase }, { on := 15, ground := Ground.phase }, { on := 16, ground := Ground.phase }, { on := 17, ground := Ground.phase }, { on := 18, ground := Ground.phase }, { on := 19, ground := Ground.phase }, { on := 20, ground := Ground.phase }, { on := 21, ground := Ground.phase }, { on := 22, ground := Ground.phase }, { on := 23, ground := Ground.phase }, { on := 24, ground := Ground.phase }, { on := 25, ground := Ground.phase }, { on := 26, ground := Ground.phase }, { on := 27, ground := Ground.phase }, { on := 28, ground := Ground.phase }, { on := 29, ground := Ground.phase }, { on := 30, ground := Ground.phase }], guard := none }) (v := ?v164) rfl (by kernel_rfl) (by kernel_rfl) (by kernel_rfl) (fun _ _ _ h => h) (Or.inl ⟨by rfl, ?hy164⟩) hH29h.out ?rest164
            case hy164 => (intro w9 hS9; go_simp; (try with_reducible rfl))
            simp only [Act.put, List.setIfInBounds_toArray, List.set_cons_zero, List.set_cons_succ]
            refine wpAnyH_done (by kernel_rfl) ?_ _
            refine NoPanic.normal ?_
            go_wp2_with fail
            go_ret
            exact ⟨rfl, next hb4 HB6.out⟩
          ·
            go_simp
            have HO16 := hide (ItemSl.alloc HO10.out (.cells #[.int .i64 1, .slice (some ⟨w3.heap.size, 0, none⟩) 1 1, .int .i64 0] 38))
            have HG16 : Hid (((w5.alloc (.cells #[] 38)).alloc (.cells #[.int .i64 1, .slice (some ⟨w3.heap.size, 0, none⟩) 1 1, .int .i64 0] 38)).heap[(w5.heap.size + 1)]? = some (.cells #[.int .i64 1, .slice (some ⟨w3.heap.size, 0, none⟩) 1 1, .int .i64 0] 38)) := hide (by rw [show w5.heap.size + 1 = (w5.alloc (.cells #[] 38)).heap.size by simp]; exact heap_alloc_new (w5.alloc (.cells #[] 38)) _)
            refine hK.out _ _ (Below.alloc hH16h.out (Below.size hH16h.out) _) (fun hH20 => ?_)
            clear hK K
            try simp only [Act.put, List.setIfInBounds_toArray, List.set_cons_zero, List.set_cons_succ]
            have hH20h := hide (show Below w4.heap.size w4 _ from hH20)
            clear hH20
            refine wpAnyH_ready (rs := [18]) (by kernel_rfl) (by simp) ?_
            refine AllReadyH.cons (o := { dst := some 40, op := Op.call { callee := Callee.builtin Builtin.append, args := #[Operand.tmp 38, Operand.tmp 39], argTypes := #[31, 31] }, type := 31, pos := "laws.go:102", after := #[{ on := 16, ground := Ground.data }, { on := 17, ground := Ground.data }, { on := 15, ground := Ground.chain }, { on := 15, ground := Ground.guard }], guard := some (15, true) }) rfl (fun K hK => ?_) (AllReadyH.nil)
            go_simp
            refine hK.out _ _ hH20h.out (fun hH18 => ?_)
            clear hK K
            try simp only [Act.put, List.setIfInBounds_toArray, List.set_cons_zero, List.set_cons_succ]
            have hH18h := hide (show Below w4.heap.size w4 _ from hH18)
            clear hH18
            refine wpAnyH_ready (rs := [21]) (by kernel_rfl) (by simp) ?_
            refine AllReadyH.cons (o := { dst := some 43, op := Op.call { callee := Callee.builtin Builtin.append, args := #[Operand.tmp 40, Operand.tmp 42], argTypes := #[31, 31] }, type := 31, pos := "laws.go:102", after := #[{ on := 18, ground := Ground.data }, { on := 20, ground := Ground.data }, { on := 18, ground := Ground.chain }, { on := 15, ground := Ground.guard }], guard := some (15, true) }) rfl (fun K hK => ?_) (AllReadyH.nil)
            refine step_push_item (by rfl) _ _ (by rfl) w5.heap.size (.slice (some ⟨w5.heap.size, 0, none⟩) 0 0) [] (by rfl) HO16.out ((w5.heap.size + 1)) ⟨1, [⟨([] : List Item).length, 1⟩], 0⟩ (some ⟨w3.heap.size, 0, none⟩) 1 (by rfl) HG16.out (parts_lit ((Below.block hH18h.out _ hPl).trans HPT.out)).1 (parts_lit ((Below.block hH18h.out _ hPl).trans HPT.out)).2 (by first | omega | simp) (by first | exact HZ12 | (simp <;> omega)) ?_
            intro g17 cap17 w17 hown17 hgrow17
            have HS17 : Hid (Below w4.heap.size w4 w17) := hide (Below.grown hH18h.out hgrow17 (Below.size hH18h.out) (fun k hk => Nat.le_trans hz5 (ItemSl.own_lt HO16.out k hk).1))
            have HO17 := hide hown17
            clear hown17 hgrow17
            refine hK.out _ _ HS17.out (fun hH21 => ?_)
            clear hK K
            try simp only [Act.put, List.setIfInBounds_toArray, List.set_cons_zero, List.set_cons_succ]
            have hH21h := hide (show Below w4.heap.size w4 _ from hH21)
            clear hH21
            refine wpAnyH_ready (rs := [22]) (by kernel_rfl) (by simp) ?_
            refine AllReadyH.cons (o := { dst := some 44, op := Op.call { callee := Callee.value (Operand.func 10), args := #[Operand.tmp 43], argTypes := #[31] }, type := 4, pos := "laws.go:102", after := #[{ on := 21, ground := Ground.data }, { on := 21, ground := Ground.chain }, { on := 15, ground := Ground.guard }], guard := some (15, true) }) rfl (fun K hK => ?_) (AllReadyH.nil)
            go_simp
            go_at_call 10
            refine (implItemsValid_at _ _ _ _ _ _ (by simp) HWR HO17.out.itemsAt (by first | omega | simp) HPW.out).mono ?_
            rintro e w19 ⟨rfl, hB19⟩
            have HS19 := hide (next hH21h.out hB19)
            clear hB19
            go_wp2_with fail
            refine hK.out _ _ HS19.out (fun hH22 => ?_)
            clear hK K
            try simp only [Act.put, List.setIfInBounds_toArray, List.set_cons_zero, List.set_cons_succ]
            have hH22h := hide (show Below w4.heap.size w4 _ from hH22)
            clear hH22
            refine wpAnyH_take (i := 23) (oi := { dst := some 45, op := Op.unOp UnOp.not 4 (Operand.tmp 44), type := 4, pos := "laws.go:102", after := #[{ on := 22, ground := Ground.data }, { on := 15, ground := Ground.guard }], guard := some (15, true) }) (v := ?v165) rfl (by kernel_rfl) (by kernel_rfl) (by kernel_rfl) (fun _ _ _ h => h) (Or.inl ⟨by rfl, ?hy165⟩) hH22h.out ?rest165
            case hy165 => (intro w9 hS9; go_simp; (try with_reducible rfl))
            simp only [Act.put, List.setIfInBounds_toArray, List.set_cons_zero, List.set_cons_succ]
            refine wpAnyH_take (i := 24) (oi := { dst := some 46, op := Op.pick (Operand.tmp 37) (Operand.tmp 45) (Operand.const (Value.bool false)), type := 4, pos := "laws.go:102", after := #[{ on := 15, ground := Ground.data }, { on := 23, ground := Ground.data }], guard := none }) (v := ?v166) rfl (by kernel_rfl) (by kernel_rfl) (by kernel_rfl) (fun _ _ _ h => h) (Or.inl ⟨by rfl, ?hy166⟩) hH22h.out ?rest166
            case hy166 => (intro w9 hS9; go_simp; (try with_reducible rfl))
            simp only [Act.put, List.setIfInBounds_toArray, List.set_cons_zero, List.set_cons_succ]
            refine wpAnyH_take (i := 25) (oi := { dst := some 47, op := Op.move (Operand.tmp 46), type := 4, pos := "laws.go:102", after := #[{ on := 24, ground := Ground.data }, { on := 22, ground := Ground.chain }], guard := none }) (v := ?v167) rfl (by kernel_rfl) (by kernel_rfl) (by kernel_rfl) (fun _ _ _ h => h) (Or.inl ⟨by rfl, ?hy167⟩) hH22h.out ?rest167
            case hy167 => (intro w9 hS9; go_simp; (try with_reducible rfl))
            simp only [Act.put, List.setIfInBounds_toArray, List.set_cons_zero, List.set_cons_succ]
            refine wpAnyH_ready (rs := [26]) (by kernel_rfl) (by simp) ?_
            refine AllReadyH.cons (o := { dst := some 48, op := Op.call { callee := Callee.value (Operand.func 10), args := #[Operand.const (Value.slice none 0 0)], argTypes := #[31] }, type := 4, pos := "laws.go:102", after := #[{ on := 25, ground := Ground.chain }, { on := 25, ground := Ground.guard }], guard := some (25, true) }) rfl (fun K hK => ?_) (AllReadyH.nil)
            go_simp
            go_at_call 10
            refine (implItemsValid_at none 0 0 [] true _ rfl (hide rfl) (fun i x hx => by simp at hx) (by omega) (fun x hx => by simp at hx)).mono ?_
            rintro e w20 ⟨rfl, hB20⟩
            have HS20 := hide (next hH22h.out hB20)
            clear hB20
            go_wp2_with fail
            refine hK.out _ _ HS20.out (fun hH26 => ?_)
            clear hK K
            try simp only [Act.put, List.setIfInBounds_toArray, List.set_cons_zero, List.set_cons_succ]
            have hH26h := hide (show Below w4.heap.size w4 _ from hH26)
            clear hH26
            refine wpAnyH_take (i := 27) (oi := { dst := some 49, op := Op.pick (Operand.tmp 47) (Operand.tmp 48) (Operand.const (Value.bool false)), type := 4, pos := "laws.go:102", after := #[{ on := 25, ground := Ground.data }, { on := 26, ground := Ground.data }], guard := none }) (v := ?v168) rfl (by kernel_rfl) (by kernel_rfl) (by kernel_rfl) (fun _ _ _ h => h) (Or.inl ⟨by rfl, ?hy168⟩) hH26h.out ?rest168
            case hy168 => (intro w9 hS9; go_simp; (try with_reducible rfl))
            simp only [Act.put, List.setIfInBounds_toArray, List.set_cons_zero, List.set_cons_succ]
            refine wpAnyH_take (i := 28) (oi := { dst := some 50, op := Op.move (Operand.tmp 49), type := 4, pos := "laws.go:102", after := #[{ on := 27, ground := Ground.data }, { on := 26, ground := Ground.chain }], guard := none }) (v := ?v169) rfl (by kernel_rfl) (by kernel_rfl) (by kernel_rfl) (fun _ _ _ h => h) (Or.inl ⟨by rfl, ?hy169⟩) hH26h.out ?rest169
            case hy169 => (intro w9 hS9; go_simp; (try with_reducible rfl))
            simp only [Act.put, List.setIfInBounds_toArray, List.set_cons_zero, List.set_cons_succ]
            refine wpAnyH_ready (rs := [29]) (by kernel_rfl) (by simp) ?_
            refine AllReadyH.cons (o := { dst := some 51, op := Op.call { callee := Callee.value (Operand.func 8), args := #[], argTypes := #[] }, type := 4, pos := "laws.go:102", after := #[{ on := 28, ground := Ground.chain }, { on := 28, ground := Ground.guard }], guard := some (28, true) }) rfl (fun K hK => ?_) (AllReadyH.nil)
            go_simp
            go_at_call 8
            refine (alive_any _).mono ?_
            rintro e w6 ⟨rfl, hB6⟩
            have HB6 := hide (next hH26h.out hB6)
            clear hB6
            go_wp2_with fail
            refine hK.out _ _ HB6.out (fun hH29 => ?_)
            clear hK K
            try simp only [Act.put, List.setIfInBounds_toArray, List.set_cons_zero, List.set_cons_succ]
            have hH29h := hide (show Below w4.heap.size w4 _ from hH29)
            clear hH29
            refine wpAnyH_take (i := 30) (oi := { dst := some 52, op := Op.pick (Operand.tmp 50) (Operand.tmp 51) (Operand.const (Value.bool false)), type := 4, pos := "laws.go:102", after := #[{ on := 28, ground := Ground.data }, { on := 29, ground := Ground.data }], guard := none }) (v := ?v170) rfl (by kernel_rfl) (by kernel_rfl) (by kernel_rfl) (fun _ _ _ h => h) (Or.inl ⟨by rfl, ?hy170⟩) hH29h.out ?rest170
            case hy170 => (intro w9 hS9; go_simp; (try with_reducible rfl))
            simp only [Act.put, List.setIfInBounds_toArray, List.set_cons_zero, List.set_cons_succ]
            refine wpAnyH_take (i := 31) (oi := { dst := some 2, op := Op.assign (Operand.tmp 52), type := 4, pos := "laws.go:102", after := #[{ on := 30, ground := Ground.data }, { on := 29, ground := Ground.chain }, { on := 0, ground := Ground.phase }, { on := 1, ground := Ground.phase }, { on := 2, ground := Ground.phase }, { on := 3, ground := Ground.phase }, { on := 4, ground := Ground.phase }, { on := 5, ground := Ground.phase }, { on := 6, ground := Ground.phase }, { on := 7, ground := Ground.phase }, { on := 8, ground := Ground.phase }, { on := 9, ground := Ground.phase }, { on := 10, ground := Ground.phase }, { on := 11, ground := Ground.phase }, { on := 12, ground := Ground.phase }, { on := 13, ground := Ground.phase }, { on := 14, ground := Ground.phase }, { on := 15, ground := Ground.phase }, { on := 16, ground := Ground.phase }, { on := 17, ground := Ground.phase }, { on := 18, ground := Ground.phase }, { on := 19, ground := Ground.phase }, { on := 20, ground := Ground.phase }, { on := 21, ground := Ground.phase }, { on := 22, ground := Ground.phase }, { on := 23, ground := Ground.phase }, { on := 24, ground := Ground.phase }, { on := 25, ground := Ground.phase }, { on := 26, ground := Ground.phase }, { on := 27, ground := Ground.phase }, { on := 28, ground := Ground.phase }, { on := 29, ground := Ground.phase }, { on := 30, ground := Ground.phase }], guard := none }) (v := ?v171) rfl (by kernel_rfl) (by kernel_rfl) (by kernel_rfl) (fun _ _ _ h => h) (Or.inl ⟨by rfl, ?hy171⟩) hH29h.out ?rest171
            case hy171 => (intro w9 hS9; go_simp; (try with_reducible rfl))
            simp only [Act.put, List.setIfInBounds_toArray, List.set_cons_zero, List.set_cons_succ]
            refine wpAnyH_done (by kernel_rfl) ?_ _
            refine NoPanic.normal ?_
            go_wp2_with fail
            go_ret
            exact ⟨rfl, next hb4 HB6.out⟩
        ·
          go_simp
          have HG16 : Hid ((w5.alloc (.cells #[.int .i64 1, .slice (some ⟨w3.heap.size, 0, none⟩) 1 1, .int .i64 0] 38)).heap[w5.heap.size]? = some (.cells #[.int .i64 1, .slice (some ⟨w3.heap.size, 0, none⟩) 1 1, .int .i64 0] 38)) := hide (by exact heap_alloc_new w5 _)
          refine hK.out _ _ (Below.alloc hH0h.out (Below.size hH0h.out) _) (fun hH20 => ?_)
          clear hK K
          try simp only [Act.put, List.setIfInBounds_toArray, List.set_cons_zero, List.set_cons_succ]
          have hH20h := hide (show Below w4.heap.size w4 _ from hH20)
          clear hH20
          refine wpAnyH_ready (rs := [16]) (by kernel_rfl) (by simp) ?_
          refine AllReadyH.cons (o := { dst := some 38, op := Op.buildSlice 31 0 #[], type := 31, pos := "laws.go:102", after := #[{ on := 15, ground := Ground.guard }], guard := some (15, true) }) rfl (fun K hK => ?_) (AllReadyH.nil)
          go_simp
          have HO10 : Hid (ItemSl ((w5.alloc (.cells #[.int .i64 1, .slice (some ⟨w3.heap.size, 0, none⟩) 1 1, .int .i64 0] 38)).alloc (.cells #[] 38)) w5.heap.size (.slice (some ⟨(w5.heap.size + 1), 0, none⟩) 0 0) []) := hide ⟨[], by rw [show w5.heap.size + 1 = (w5.alloc (.cells #[.int .i64 1, .slice (some ⟨w3.heap.size, 0, none⟩) 1 1, .int .i64 0] 38)).heap.size by simp]; exact World.ownsRow_lit (w5.alloc (.cells #[.int .i64 1, .slice (some ⟨w3.heap.size, 0, none⟩) 1 1, .int .i64 0] 38)) #[] 0 (by first | exact Nat.le_refl _ | (simp; done) | (simp <;> omega)) (by unfold maxLen; omega) rfl, fun i x hx => by simp at hx⟩
          have HG10 : Hid (((w5.alloc (.cells #[.int .i64 1, .slice (some ⟨w3.heap.size, 0, none⟩) 1 1, .int .i64 0] 38)).alloc (.cells #[] 38)).heap[w5.heap.size]? = some (.cells #[.int .i64 1, .slice (some ⟨w3.heap.size, 0, none⟩) 1 1, .int .i64 0] 38)) := hide (((World.grownBy_alloc (w5.alloc (.cells #[.int .i64 1, .slice (some ⟨w3.heap.size, 0, none⟩) 1 1, .int .i64 0] 38)) _ none).block _ (by simp) (by simp)).trans HG16.out)
          refine hK.out _ _ (Below.alloc hH20h.out (Below.size hH20h.out) _) (fun hH16 => ?_)
          clear hK K
          try simp only [Act.put, List.setIfInBounds_toArray, List.set_cons_zero, List.set_cons_succ]
          have hH16h := hide (show Below w4.heap.size w4 _ from hH16)
          clear hH16
          refine wpAnyH_ready (rs := [18]) (by kernel_rfl) (by simp) ?_
          refine AllReadyH.cons (o := { dst := some 40, op := Op.call { callee := Callee.builtin Builtin.append, args := #[Operand.tmp 38, Operand.tmp 39], argTypes := #[31, 31] }, type := 31, pos := "laws.go:102", after := #[{ on := 16, ground := Ground.data }, { on := 17, ground := Ground.data }, { on := 15, ground := Ground.chain }, { on := 15, ground := Ground.guard }], guard := some (15, true) }) rfl (fun K hK => ?_) (AllReadyH.nil)
          go_simp
          refine hK.out _ _ hH16h.out (fun hH18 => ?_)
          clear hK K
          try simp only [Act.put, List.setIfInBounds_toArray, List.set_cons_zero, List.set_cons_succ]
          have hH18h := hide (show Below w4.heap.size w4 _ from hH18)
          clear hH18
          refine wpAnyH_ready (rs := [21]) (by kernel_rfl) (by simp) ?_
          refine AllReadyH.cons (o := { dst := some 43, op := Op.call { callee := Callee.builtin Builtin.append, args := #[Operand.tmp 40, Operand.tmp 42], argTypes := #[31, 31] }, type := 31, pos := "laws.go:102", after := #[{ on := 18, ground := Ground.data }, { on := 20, ground := Ground.data }, { on := 18, ground := Ground.chain }, { on := 15, ground := Ground.guard }], guard := some (15, true) }) rfl (fun K hK => ?_) (AllReadyH.nil)
          refine step_push_item (by rfl) _ _ (by rfl) w5.heap.size (.slice (some ⟨(w5.heap.size + 1), 0, none⟩) 0 0) [] (by rfl) HO10.out (w5.heap.size) ⟨1, [⟨([] : List Item).length, 1⟩], 0⟩ (some ⟨w3.heap.size, 0, none⟩) 1 (by rfl) HG10.out (parts_lit ((Below.block hH18h.out _ hPl).trans HPT.out)).1 (parts_lit ((Below.block hH18h.out _ hPl).trans HPT.out)).2 (by first | omega | simp) (by first | exact HZ12 | (simp <;> omega)) ?_
          intro g17 cap17 w17 hown17 hgrow17
          have HS17 : Hid (Below w4.heap.size w4 w17) := hide (Below.grown hH18h.out hgrow17 (Below.size hH18h.out) (fun k hk => Nat.le_trans hz5 (ItemSl.own_lt HO10.out k hk).1))
          have HO17 := hide hown17
          clear hown17 hgrow17
          refine hK.out _ _ HS17.out (fun hH21 => ?_)
          clear hK K
          try simp only [Act.put, List.setIfInBounds_toArray, List.set_cons_zero, List.set_cons_succ]
          have hH21h := hide (show Below w4.heap.size w4 _ from hH21)
          clear hH21
          refine wpAnyH_ready (rs := [22]) (by kernel_rfl) (by simp) ?_
          refine AllReadyH.cons (o := { dst := some 44, op := Op.call { callee := Callee.value (Operand.func 10), args := #[Operand.tmp 43], argTypes := #[31] }, type := 4, pos := "laws.go:102", after := #[{ on := 21, ground := Ground.data }, { on := 21, ground := Ground.chain }, { on := 15, ground := Ground.guard }], guard := some (15, true) }) rfl (fun K hK => ?_) (AllReadyH.nil)
          go_simp
          go_at_call 10
          refine (implItemsValid_at _ _ _ _ _ _ (by simp) HWR HO17.out.itemsAt (by first | omega | simp) HPW.out).mono ?_
          rintro e w19 ⟨rfl, hB19⟩
          have HS19 := hide (next hH21h.out hB19)
          clear hB19
          go_wp2_with fail
          refine hK.out _ _ HS19.out (fun hH22 => ?_)
          clear hK K
          try simp only [Act.put, List.setIfInBounds_toArray, List.set_cons_zero, List.set_cons_succ]
          have hH22h := hide (show Below w4.heap.size w4 _ from hH22)
          clear hH22
          refine wpAnyH_take (i := 23) (oi := { dst := some 45, op := Op.unOp UnOp.not 4 (Operand.tmp 44), type := 4, pos := "laws.go:102", after := #[{ on := 22, ground := Ground.data }, { on := 15, ground := Ground.guard }], guard := some (15, true) }) (v := ?v172) rfl (by kernel_rfl) (by kernel_rfl) (by kernel_rfl) (fun _ _ _ h => h) (Or.inl ⟨by rfl, ?hy172⟩) hH22h.out ?rest172
          case hy172 => (intro w9 hS9; go_simp; (try with_reducible rfl))
          simp only [Act.put, List.setIfInBounds_toArray, List.set_cons_zero, List.set_cons_succ]
          refine wpAnyH_take (i := 24) (oi := { dst := some 46, op := Op.pick (Operand.tmp 37) (Operand.tmp 45) (Operand.const (Value.bool false)), type := 4, pos := "laws.go:102", after := #[{ on := 15, ground := Ground.data }, { on := 23, ground := Ground.data }], guard := none }) (v := ?v173) rfl (by kernel_rfl) (by kernel_rfl) (by kernel_rfl) (fun _ _ _ h => h) (Or.inl ⟨by rfl, ?hy173⟩) hH22h.out ?rest173
          case hy173 => (intro w9 hS9; go_simp; (try with_reducible rfl))
          simp only [Act.put, List.setIfInBounds_toArray, List.set_cons_zero, List.set_cons_succ]
          refine wpAnyH_take (i := 25) (oi := { dst := some 47, op := Op.move (Operand.tmp 46), type := 4, pos := "laws.go:102", after := #[{ on := 24, ground := Ground.data }, { on := 22, ground := Ground.chain }], guard := none }) (v := ?v174) rfl (by kernel_rfl) (by kernel_rfl) (by kernel_rfl) (fun _ _ _ h => h) (Or.inl ⟨by rfl, ?hy174⟩) hH22h.out ?rest174
          case hy174 => (intro w9 hS9; go_simp; (try with_reducible rfl))
          simp only [Act.put, List.setIfInBounds_toArray, List.set_cons_zero, List.set_cons_succ]
          refine wpAnyH_ready (rs := [26]) (by kernel_rfl) (by simp) ?_
          refine AllReadyH.cons (o := { dst := some 48, op := Op.call { callee := Callee.value (Operand.func 10), args := #[Operand.const (Value.slice none 0 0)], argTypes := #[31] }, type := 4, pos := "laws.go:102", after := #[{ on := 25, ground := Ground.chain }, { on := 25, ground := Ground.guard }], guard := some (25, true) }) rfl (fun K hK => ?_) (AllReadyH.nil)
          go_simp
          go_at_call 10
          refine (implItemsValid_at none 0 0 [] true _ rfl (hide rfl) (fun i x hx => by simp at hx) (by omega) (fun x hx => by simp at hx)).mono ?_
          rintro e w20 ⟨rfl, hB20⟩
          have HS20 := hide (next hH22h.out hB20)
          clear hB20
          go_wp2_with fail
          refine hK.out _ _ HS20.out (fun hH26 => ?_)
          clear hK K
          try simp only [Act.put, List.setIfInBounds_toArray, List.set_cons_zero, List.set_cons_succ]
          have hH26h := hide (show Below w4.heap.size w4 _ from hH26)
          clear hH26
          refine wpAnyH_take (i := 27) (oi := { dst := some 49, op := Op.pick (Operand.tmp 47) (Operand.tmp 48) (Operand.const (Value.bool false)), type := 4, pos := "laws.go:102", after := #[{ on := 25, ground := Ground.data }, { on := 26, ground := Ground.data }], guard := none }) (v := ?v175) rfl (by kernel_rfl) (by kernel_rfl) (by kernel_rfl) (fun _ _ _ h => h) (Or.inl ⟨by rfl, ?hy175⟩) hH26h.out ?rest175
          case hy175 => (intro w9 hS9; go_simp; (try with_reducible rfl))
          simp only [Act.put, List.setIfInBounds_toArray, List.set_cons_zero, List.set_cons_succ]
          refine wpAnyH_take (i := 28) (oi := { dst := some 50, op := Op.move (Operand.tmp 49), type := 4, pos := "laws.go:102", after := #[{ on := 27, ground := Ground.data }, { on := 26, ground := Ground.chain }], guard := none }) (v := ?v176) rfl (by kernel_rfl) (by kernel_rfl) (by kernel_rfl) (fun _ _ _ h => h) (Or.inl ⟨by rfl, ?hy176⟩) hH26h.out ?rest176
          case hy176 => (intro w9 hS9; go_simp; (try with_reducible rfl))
          simp only [Act.put, List.setIfInBounds_toArray, List.set_cons_zero, List.set_cons_succ]
          refine wpAnyH_ready (rs := [29]) (by kernel_rfl) (by simp) ?_
          refine AllReadyH.cons (o := { dst := some 51, op := Op.call { callee := Callee.value (Operand.func 8), args := #[], argTypes := #[] }, type := 4, pos := "laws.go:102", after := #[{ on := 28, ground := Ground.chain }, { on := 28, ground := Ground.guard }], guard := some (28, true) }) rfl (fun K hK => ?_) (AllReadyH.nil)
          go_simp
          go_at_call 8
          refine (alive_any _).mono ?_
          rintro e w6 ⟨rfl, hB6⟩
          have HB6 := hide (next hH26h.out hB6)
          clear hB6
          go_wp2_with fail
          refine hK.out _ _ HB6.out (fun hH29 => ?_)
          clear hK K
          try simp only [Act.put, List.setIfInBounds_toArray, List.set_cons_zero, List.set_cons_succ]
          have hH29h := hide (show Below w4.heap.size w4 _ from hH29)
          clear hH29
          refine wpAnyH_take (i := 30) (oi := { dst := some 52, op := Op.pick (Operand.tmp 50) (Operand.tmp 51) (Operand.const (Value.bool false)), type := 4, pos := "laws.go:102", after := #[{ on := 28, ground := Ground.data }, { on := 29, ground := Ground.data }], guard := none }) (v := ?v177) rfl (by kernel_rfl) (by kernel_rfl) (by kernel_rfl) (fun _ _ _ h => h) (Or.inl ⟨by rfl, ?hy177⟩) hH29h.out ?rest177
          case hy177 => (intro w9 hS9; go_simp; (try with_reducible rfl))
          simp only [Act.put, List.setIfInBounds_toArray, List.set_cons_zero, List.set_cons_succ]
          refine wpAnyH_take (i := 31) (oi := { dst := some 2, op := Op.assign (Operand.tmp 52), type := 4, pos := "laws.go:102", after := #[{ on := 30, ground := Ground.data }, { on := 29, ground := Ground.chain }, { on := 0, ground := Ground.phase }, { on := 1, ground := Ground.phase }, { on := 2, ground := Ground.phase }, { on := 3, ground := Ground.phase }, { on := 4, ground := Ground.phase }, { on := 5, ground := Ground.phase }, { on := 6, ground := Ground.phase }, { on := 7, ground := Ground.phase }, { on := 8, ground := Ground.phase }, { on := 9, ground := Ground.phase }, { on := 10, ground := Ground.phase }, { on := 11, ground := Ground.phase }, { on := 12, ground := Ground.phase }, { on := 13, ground := Ground.phase }, { on := 14, ground := Ground.phase }, { on := 15, ground := Ground.phase }, { on := 16, ground := Ground.phase }, { on := 17, ground := Ground.phase }, { on := 18, ground := Ground.phase }, { on := 19, ground := Ground.phase }, { on := 20, ground := Ground.phase }, { on := 21, ground := Ground.phase }, { on := 22, ground := Ground.phase }, { on := 23, ground := Ground.phase }, { on := 24, ground := Ground.phase }, { on := 25, ground := Ground.phase }, { on := 26, ground := Ground.phase }, { on := 27, ground := Ground.phase }, { on := 28, ground := Ground.phase }, { on := 29, ground := Ground.phase }, { on := 30, ground := Ground.phase }], guard := none }) (v := ?v178) rfl (by kernel_rfl) (by kernel_rfl) (by kernel_rfl) (fun _ _ _ h => h) (Or.inl ⟨by rfl, ?hy178⟩) hH29h.out ?rest178
          case hy178 => (intro w9 hS9; go_simp; (try with_reducible rfl))
          simp only [Act.put, List.setIfInBounds_toArray, List.set_cons_zero, List.set_cons_succ]
          refine wpAnyH_done (by kernel_rfl) ?_ _
          refine NoPanic.normal ?_
          go_wp2_with fail
          go_ret
          exact ⟨rfl, next hb4 HB6.out⟩
    · obtain ⟨rfl, rfl⟩ := ItemSl.some_of HS4.out
      have hcap := ItemSl.capI HS4.out
      have hc9 : c1 ≤ 9223372036854775807 := by have := hcap.2; unfold maxLen at this; omega
      have hlc := hcap.1
      clear hcap
      cases v with
      | false =>
        refine wp_region_noPanic ?_
        refine wp_region_held_drew (S := fun W => Below w4.heap.size w4 W) (by kernel_rfl) (by go_grown) (fun hH0 => ?_)
        have hH0h := hide (show Below w4.heap.size w4 _ from hH0)
        clear hH0
        obtain ⟨w5, hw5⟩ : ∃ w5, World.drew w4 = w5 := ⟨_, rfl⟩
        rw [hw5] at hH0h ⊢
        have hz5 : w4.heap.size ≤ w5.heap.size := by rw [← hw5]; exact Nat.le_refl _
        clear hw5
        refine wpAnyH_take (i := 0) (oi := { dst := some 22, op := Op.move (Operand.tmp 4), type := 4, pos := "laws.go:102", after := #[], guard := none }) (v := ?v179) rfl (by kernel_rfl) (by kernel_rfl) (by kernel_rfl) (fun _ _ _ h => h) (Or.inl ⟨by rfl, ?hy179⟩) hH0h.out ?rest179
        case hy179 => (intro w9 hS9; go_simp; (try with_reducible rfl))
        simp only [Act.put, List.setIfInBounds_toArray, List.set_cons_zero, List.set_cons_succ]
        refine wpAnyH_take (i := 1) (oi := { dst := some 23, op := Op.unOp UnOp.not 4 (Operand.tmp 22), type := 4, pos := "laws.go:102", after := #[{ on := 0, ground := Ground.data }], guard := none }) (v := ?v180) rfl (by kernel_rfl) (by kernel_rfl) (by kernel_rfl) (fun _ _ _ h => h) (Or.inl ⟨by rfl, ?hy180⟩) hH0h.out ?rest180
        case hy180 => (intro w9 hS9; go_simp; (try with_reducible rfl))
        simp only [Act.put, List.setIfInBounds_toArray, List.set_cons_zero, List.set_cons_succ]
        refine wpAnyH_take (i := 2) (oi := { dst := some 24, op := Op.move (Operand.tmp 23), type := 4, pos := "laws.go:102", after := #[{ on := 1, ground := Ground.data }], guard := none }) (v := ?v181) rfl (by kernel_rfl) (by kernel_rfl) (by kernel_rfl) (fun _ _ _ h => h) (Or.inl ⟨by rfl, ?hy181⟩) hH0h.out ?rest181
        case hy181 => (intro w9 hS9; go_simp; (try with_reducible rfl))
        simp only [Act.put, List.setIfInBounds_toArray, List.set_cons_zero, List.set_cons_succ]
        refine wpAnyH_take (i := 3) (oi := { dst := some 25, op := Op.move (Operand.tmp 3), type := 31, pos := "laws.go:102", after := #[{ on := 2, ground := Ground.guard }], guard := some (2, false) }) (v := undef) rfl (by kernel_rfl) (by kernel_rfl) (by kernel_rfl) (fun _ _ _ h => h) (Or.inr ⟨by rfl, rfl⟩) hH0h.out ?_
        simp only [Act.put, List.setIfInBounds_toArray, List.set_cons_zero, List.set_cons_succ]
        refine wpAnyH_take (i := 4) (oi := { dst := some 26, op := Op.call { callee := Callee.builtin Builtin.len, args := #[Operand.tmp 25], argTypes := #[31] }, type := 3, pos := "laws.go:102", after := #[{ on := 3, ground := Ground.data }, { on := 2, ground := Ground.guard }], guard := some (2, false) }) (v := undef) rfl (by kernel_rfl) (by kernel_rfl) (by kernel_rfl) (fun _ _ _ h => h) (Or.inr ⟨by rfl, rfl⟩) hH0h.out ?_
        simp only [Act.put, List.setIfInBounds_toArray, List.set_cons_zero, List.set_cons_succ]
        refine wpAnyH_take (i := 5) (oi := { dst := some 27, op := Op.binOp BinOp.eql 3 (Operand.tmp 26) (Operand.const (Value.int IntKind.i64 0)) 3, type := 4, pos := "laws.go:102", after := #[{ on := 4, ground := Ground.data }, { on := 2, ground := Ground.guard }], guard := some (2, false) }) (v := undef) rfl (by kernel_rfl) (by kernel_rfl) (by kernel_rfl) (fun _ _ _ h => h) (Or.inr ⟨by rfl, rfl⟩) hH0h.out ?_
        simp only [Act.put, List.setIfInBounds_toArray, List.set_cons_zero, List.set_cons_succ]
        refine wpAnyH_take (i := 6) (oi := { dst := some 28, op := Op.pick (Operand.tmp 24) (Operand.const (Value.bool true)) (Operand.tmp 27), type := 4, pos := "laws.go:102", after := #[{ on := 2, ground := Ground.data }, { on := 5, ground := Ground.data }], guard := none }) (v := ?v185) rfl (by kernel_rfl) (by kernel_rfl) (by kernel_rfl) (fun _ _ _ h => h) (Or.inl ⟨by rfl, ?hy185⟩) hH0h.out ?rest185
        case hy185 => (intro w9 hS9; go_simp; (try with_reducible rfl))
        simp only [Act.put, List.setIfInBounds_toArray, List.set_cons_zero, List.set_cons_succ]
        refine wpAnyH_take (i := 7) (oi := { dst := some 29, op := Op.move (Operand.tmp 28), type := 4, pos := "laws.go:102", after := #[{ on := 6, ground := Ground.data }, { on := 2, ground := Ground.chain }], guard := none }) (v := ?v186) rfl (by kernel_rfl) (by kernel_rfl) (by kernel_rfl) (fun _ _ _ h => h) (Or.inl ⟨by rfl, ?hy186⟩) hH0h.out ?rest186
        case hy186 => (intro w9 hS9; go_simp; (try with_reducible rfl))
        simp only [Act.put, List.setIfInBounds_toArray, List.set_cons_zero, List.set_cons_succ]
        refine wpAnyH_take (i := 8) (oi := { dst := some 30, op := Op.move (Operand.tmp 3), type := 31, pos := "laws.go:102", after := #[{ on := 7, ground := Ground.guard }], guard := some (7, false) }) (v := undef) rfl (by kernel_rfl) (by kernel_rfl) (by kernel_rfl) (fun _ _ _ h => h) (Or.inr ⟨by rfl, rfl⟩) hH0h.out ?_
        simp only [Act.put, List.setIfInBounds_toArray, List.set_cons_zero, List.set_cons_succ]
        refine wpAnyH_take (i := 9) (oi := { dst := some 31, op := Op.move (Operand.tmp 3), type := 31, pos := "laws.go:102", after := #[{ on := 7, ground := Ground.guard }], guard := some (7, false) }) (v := undef) rfl (by kernel_rfl) (by kernel_rfl) (by kernel_rfl) (fun _ _ _ h => h) (Or.inr ⟨by rfl, rfl⟩) hH0h.out ?_
        simp only [Act.put, List.setIfInBounds_toArray, List.set_cons_zero, List.set_cons_succ]
        refine wpAnyH_take (i := 10) (oi := { dst := some 32, op := Op.call { callee := Callee.builtin Builtin.len, args := #[Operand.tmp 31], argTypes := #[31] }, type := 3, pos := "laws.go:102", after := #[{ on := 9, ground := Ground.data }, { on := 7, ground := Ground.guard }], guard := some (7, false) }) (v := undef) rfl (by kernel_rfl) (by kernel_rfl) (by kernel_rfl) (fun _ _ _ h => h) (Or.inr ⟨by rfl, rfl⟩) hH0h.out ?_
        simp only [Act.put, List.setIfInBounds_toArray, List.set_cons_zero, List.set_cons_succ]
        refine wpAnyH_take (i := 11) (oi := { dst := some 33, op := Op.binOp BinOp.sub 3 (Operand.tmp 32) (Operand.const (Value.int IntKind.i64 1)) 3, type := 3, pos := "laws.go:102", after := #[{ on := 10, ground := Ground.data }, { on := 7, ground := Ground.guard }], guard := some (7, false) }) (v := undef) rfl (by kernel_rfl) (by kernel_rfl) (by kernel_rfl) (fun _ _ _ h => h) (Or.inr ⟨by rfl, rfl⟩) hH0h.out ?_
        simp only [Act.put, List.setIfInBounds_toArray, List.set_cons_zero, List.set_cons_succ]
        refine wpAnyH_take (i := 12) (oi := { dst := some 34, op := Op.slice 31 (Operand.tmp 30) none (some (Operand.tmp 33)) none, type := 31, pos := "laws.go:102", after := #[{ on := 8, ground := Ground.data }, { on := 11, ground := Ground.data }, { on := 7, ground := Ground.guard }], guard := some (7, false) }) (v := undef) rfl (by kernel_rfl) (by kernel_rfl) (by kernel_rfl) (fun _ _ _ h => h) (Or.inr ⟨by rfl, rfl⟩) hH0h.out ?_
        simp only [Act.put, List.setIfInBounds_toArray, List.set_cons_zero, List.set_cons_succ]
        refine wpAnyH_take (i := 13) (oi := { dst := some 35, op := Op.call { callee := Callee.value (Operand.func 10), args := #[Operand.tmp 34], argTypes := #[31] }, type := 4, pos := "laws.go:102", after := #[{ on := 12, ground := Ground.data }, { on := 7, ground := Ground.chain }, { on := 7, ground := Ground.guard }], guard := some (7, false) }) (v := undef) rfl (by kernel_rfl) (by kernel_rfl) (by kernel_rfl) (fun _ _ _ h => h) (Or.inr ⟨by rfl, rfl⟩) hH0h.out ?_
        simp only [Act.put, List.setIfInBounds_toArray, List.set_cons_zero, List.set_cons_succ]
        refine wpAnyH_take (i := 14) (oi := { dst := some 36, op := Op.pick (Operand.tmp 29) (Operand.const (Value.bool true)) (Operand.tmp 35), type := 4, pos := "laws.go:102", after := #[{ on := 7, ground := Ground.data }, { on := 13, ground := Ground.data }], guard := none }) (v := ?v193) rfl (by kernel_rfl) (by kernel_rfl) (by kernel_rfl) (fun _ _ _ h => h) (Or.inl ⟨by rfl, ?hy193⟩) hH0h.out ?rest193
        case hy193 => (intro w9 hS9; go_simp; (try with_reducible rfl))
        simp only [Act.put, List.setIfInBounds_toArray, List.set_cons_zero, List.set_cons_succ]
        refine wpAnyH_take (i := 15) (oi := { dst := some 37, op := Op.move (Operand.tmp 36), type := 4, pos := "laws.go:102", after := #[{ on := 14, ground := Ground.data }, { on := 13, ground := Ground.chain }], guard := none }) (v := ?v194) rfl (by kernel_rfl) (by kernel_rfl) (by kernel_rfl) (fun _ _ _ h => h) (Or.inl ⟨by rfl, ?hy194⟩) hH0h.out ?rest194
        case hy194 => (intro w9 hS9; go_simp; (try with_reducible rfl))
        simp only [Act.put, List.setIfInBounds_toArray, List.set_cons_zero, List.set_cons_succ]
        refine wpAnyH_take (i := 17) (oi := { dst := some 39, op := Op.move (Operand.tmp 3), type := 31, pos := "laws.go:102", after := #[{ on := 15, ground := Ground.guard }], guard := some (15, true) }) (v := ?v195) rfl (by kernel_rfl) (by kernel_rfl) (by kernel_rfl) (fun _ _ _ h => h) (Or.inl ⟨by rfl, ?hy195⟩) hH0h.out ?rest195
        case hy195 => (intro w9 hS9; go_simp; (try with_reducible rfl))
        simp only [Act.put, List.setIfInBounds_toArray, List.set_cons_zero, List.set_cons_succ]
        refine wpAnyH_take (i := 19) (oi := { dst := some 41, op := Op.load 38 (Operand.tmp 5), type := 38, pos := "laws.go:102", after := #[{ on := 15, ground := Ground.guard }], guard := some (15, true) }) (v := ?v196) rfl (by kernel_rfl) (by kernel_rfl) (by kernel_rfl) (fun _ _ _ h => h) (Or.inl ⟨by rfl, ?hy196⟩) hH0h.out ?rest196
        case hy196 => (intro w9 hS9; have hc90 := (Below.cell (show Below w4.heap.size w4 w9 from hS9) hXl).trans hx0; have hc91 := (Below.cell (show Below w4.heap.size w4 w9 from hS9) hXl).trans hx1; have hc92 := (Below.cell (show Below w4.heap.size w4 w9 from hS9) hXl).trans hx2; go_simp; (try with_reducible rfl))
        simp only [Act.put, List.setIfInBounds_toArray, List.set_cons_zero, List.set_cons_succ]
        refine wpAnyH_ready (rs := [16, 20]) (by kernel_rfl) (by simp) ?_
        refine AllReadyH.cons (o := { dst := some 38, op := Op.buildSlice 31 0 #[], type := 31, pos := "laws.go:102", after := #[{ on := 15, ground := Ground.guard }], guard := some (15, true) }) rfl (fun K hK => ?_) (AllReadyH.cons (o := { dst := some 42, op := Op.buildSlice 31 1 #[(0, Operand.tmp 41)], type := 31, pos := "laws.go:102", after := #[{ on := 19, ground := Ground.data }, { on := 15, ground := Ground.guard }], guard := some (15, true) }) rfl (fun K hK => ?_) (AllReadyH.nil))
        ·
          go_simp
          have HO10 : Hid (ItemSl (w5.alloc (.cells #[] 38)) w5.heap.size (.slice (some ⟨w5.heap.size, 0, none⟩) 0 0) []) := hide ⟨[], by exact World.ownsRow_lit w5 #[] 0 (by first | exact Nat.le_refl _ | (simp; done) | (simp <;> omega)) (by unfold maxLen; omega) rfl, fun i x hx => by simp at hx⟩
          refine hK.out _ _ (Below.alloc hH0h.out (Below.size hH0h.out) _) (fun hH16 => ?_)
          clear hK K
          try simp only [Act.put, List.setIfInBounds_toArray, List.set_cons_zero, List.set_cons_succ]
          have hH16h := hide (show Below w4.heap.size w4 _ from hH16)
          clear hH16
          refine wpAnyH_ready (rs := [18, 20]) (by kernel_rfl) (by simp) ?_
          refine AllReadyH.cons (o := { dst := some 40, op := Op.call { callee := Callee.builtin Builtin.append, args := #[Operand.tmp 38, Operand.tmp 39], argTypes := #[31, 31] }, type := 31, pos := "laws.go:102", after := #[{ on := 16, ground := Ground.data }, { on := 17, ground := Ground.data }, { on := 15, ground := Ground.chain }, { on := 15, ground := Ground.guard }], guard := some (15, true) }) rfl (fun K hK => ?_) (AllReadyH.cons (o := { dst := some 42, op := Op.buildSlice 31 1 #[(0, Operand.tmp 41)], type := 31, pos := "laws.go:102", after := #[{ on := 19, ground := Ground.data }, { on := 15, ground := Ground.guard }], guard := some (15, true) }) rfl (fun K hK => ?_) (AllReadyH.nil))
          ·
            refine step_copy_item (by rfl) _ _ (by rfl) w5.heap.size (.slice (some ⟨w5.heap.size, 0, none⟩) 0 0) (by rfl) HO10.out (by simp) g c1 lo l (by rfl) (HS4.out.belowC hH16h.out) (by omega) (by first | exact Nat.le_refl _ | (simp; done) | (simp <;> omega)) ?_
            intro g12 cap12 w12 hown12 hgrow12
            have HLW := hide (fun (k : Nat) (hk : ((.slice (some ⟨w5.heap.size, 0, none⟩) 0 0) : Value).ownBlock = some k) => (by have := ItemSl.own_lt HO10.out k hk; exact this))
            have HS12 : Hid (Below w4.heap.size w4 w12) := hide (Below.grown hH16h.out hgrow12 (Below.size hH16h.out) (fun k hk => Nat.le_trans hz5 (HLW.out k hk).1))
            have HZ12 : w5.heap.size ≤ w12.heap.size := Nat.le_trans (by first | exact Nat.le_refl _ | (simp; done) | (simp <;> omega)) hgrow12.size
            have HO12 : Hid (ItemSl w12 w5.heap.size (.slice (some ⟨g12, 0, none⟩) l.length cap12) l) := hide hown12
            clear hown12 hgrow12 HLW
            refine hK.out _ _ HS12.out (fun hH18 => ?_)
            clear hK K
            try simp only [Act.put, List.setIfInBounds_toArray, List.set_cons_zero, List.set_cons_succ]
            have hH18h := hide (show Below w4.heap.size w4 _ from hH18)
            clear hH18
            refine wpAnyH_ready (rs := [20]) (by kernel_rfl) (by simp) ?_
            refine AllReadyH.cons (o := { dst := some 42, op := Op.buildSlice 31 1 #[(0, Operand.tmp 41)], type := 31, pos := "laws.go:102", after := #[{ on := 19, ground := Ground.data }, { on := 15, ground := Ground.guard }], guard := some (15, true) }) rfl (fun K hK => ?_) (AllReadyH.nil)
            go_simp
            have HO16 := hide (ItemSl.alloc HO12.out (.cells #[.int .i64 1, .slice (some ⟨w3.heap.size, 0, none⟩) 1 1, .int .i64 0] 38))
            have HG16 : Hid ((w12.alloc (.cells #[.int .i64 1, .slice (some ⟨w3.heap.size, 0, none⟩) 1 1, .int .i64 0] 38)).heap[w12.heap.size]? = some (.cells #[.int .i64 1, .slice (some ⟨w3.heap.size, 0, none⟩) 1 1, .int .i64 0] 38)) := hide (by exact heap_alloc_new w12 _)
            refine hK.out _ _ (Below.alloc hH18h.out (Below.size hH18h.out) _) (fun hH20 => ?_)
            clear hK K
            try simp only [Act.put, List.setIfInBounds_toArray, List.set_cons_zero, List.set_cons_succ]
            have hH20h := hide (show Below w4.heap.size w4 _ from hH20)
            clear hH20
            refine wpAnyH_ready (rs := [21]) (by kernel_rfl) (by simp) ?_
            refine AllReadyH.cons (o := { dst := some 43, op := Op.call { callee := Callee.builtin Builtin.append, args := #[Operand.tmp 40, Operand.tmp 42], argTypes := #[31, 31] }, type := 31, pos := "laws.go:102", after := #[{ on := 18, ground := Ground.data }, { on := 20, ground := Ground.data }, { on := 18, ground := Ground.chain }, { on := 15, ground := Ground.guard }], guard := some (15, true) }) rfl (fun K hK => ?_) (AllReadyH.nil)
            refine step_push_item (by rfl) _ _ (by rfl) w5.heap.size (.slice (some ⟨g12, 0, none⟩) l.length cap12) l (by rfl) HO16.out (w12.heap.size) ⟨1, [⟨(l : List Item).length, 1⟩], 0⟩ (some ⟨w3.heap.size, 0, none⟩) 1 (by rfl) HG16.out (parts_lit ((Below.block hH20h.out _ hPl).trans HPT.out)).1 (parts_lit ((Below.block hH20h.out _ hPl).trans HPT.out)).2 (by first | omega | simp) (by first | exact HZ12 | (simp <;> omega)) ?_
            intro g17 cap17 w17 hown17 hgrow17
            have HS17 : Hid (Below w4.heap.size w4 w17) := hide (Below.grown hH20h.out hgrow17 (Below.size hH20h.out) (fun k hk => Nat.le_trans hz5 (ItemSl.own_lt HO16.out k hk).1))
            have HO17 := hide hown17
            clear hown17 hgrow17
            refine hK.out _ _ HS17.out (fun hH21 => ?_)
            clear hK K
            try simp only [Act.put, List.setIfInBounds_toArray, List.set_cons_zero, List.set_cons_succ]
            have hH21h := hide (show Below w4.heap.size w4 _ from hH21)
            clear hH21
            refine wpAnyH_ready (rs := [22]) (by kernel_rfl) (by simp) ?_
            refine AllReadyH.cons (o := { dst := some 44, op := Op.call { callee := Callee.value (Operand.func 10), args := #[Operand.tmp 43], argTypes := #[31] }, type := 4, pos := "laws.go:102", after := #[{ on := 21, ground := Ground.data }, { on := 21, ground := Ground.chain }, { on := 15, ground := Ground.guard }], guard := some (15, true) }) rfl (fun K hK => ?_) (AllReadyH.nil)
            go_simp
            go_at_call 10
            refine (implItemsValid_at _ _ _ _ _ _ (by simp) HWR HO17.out.itemsAt (by first | omega | simp) HPW.out).mono ?_
            rintro e w19 ⟨rfl, hB19⟩
            have HS19 := hide (next hH21h.out hB19)
            clear hB19
            go_wp2_with fail
            refine hK.out _ _ HS19.out (fun hH22 => ?_)
            clear hK K
            try simp only [Act.put, List.setIfInBounds_toArray, List.set_cons_zero, List.set_cons_succ]
            have hH22h := hide (show Below w4.heap.size w4 _ from hH22)
            clear hH22
            refine wpAnyH_take (i := 23) (oi := { dst := some 45, op := Op.unOp UnOp.not 4 (Operand.tmp 44), type := 4, pos := "laws.go:102", after := #[{ on := 22, ground := Ground.data }, { on := 15, ground := Ground.guard }], guard := some (15, true) }) (v := ?v197) rfl (by kernel_rfl) (by kernel_rfl) (by kernel_rfl) (fun _ _ _ h => h) (Or.inl ⟨by rfl, ?hy197⟩) hH22h.out ?rest197
            case hy197 => (intro w9 hS9; go_simp; (try with_reducible rfl))
            simp only [Act.put, List.setIfInBounds_toArray, List.set_cons_zero, List.set_cons_succ]
            refine wpAnyH_take (i := 24) (oi := { dst := some 46, op := Op.pick (Operand.tmp 37) (Operand.tmp 45) (Operand.const (Value.bool false)), type := 4, pos := "laws.go:102", after := #[{ on := 15, ground := Ground.data }, { on := 23, ground := Ground.data }], guard := none }) (v := ?v198) rfl (by kernel_rfl) (by kernel_rfl) (by kernel_rfl) (fun _ _ _ h => h) (Or.inl ⟨by rfl, ?hy198⟩) hH22h.out ?rest198
            case hy198 => (intro w9 hS9; go_simp; (try with_reducible rfl))
            simp only [Act.put, List.setIfInBounds_toArray, List.set_cons_zero, List.set_cons_succ]
            refine wpAnyH_take (i := 25) (oi := { dst := some 47, op := Op.move (Operand.tmp 46), type := 4, pos := "laws.go:102", after := #[{ on := 24, ground := Ground.data }, { on := 22, ground := Ground.chain }], guard := none }) (v := ?v199) rfl (by kernel_rfl) (by kernel_rfl) (by kernel_rfl) (fun _ _ _ h => h) (Or.inl ⟨by rfl, ?hy199⟩) hH22h.out ?rest199
            case hy199 => (intro w9 hS9; go_simp; (try with_reducible rfl))
            simp only [Act.put, List.setIfInBounds_toArray, List.set_cons_zero, List.set_cons_succ]
            refine wpAnyH_ready (rs := [26]) (by kernel_rfl) (by simp) ?_
            refine AllReadyH.cons (o := { dst := some 48, op := Op.call { callee := Callee.value (Operand.func 10), args := #[Operand.const (Value.slice none 0 0)], argTypes := #[31] }, type := 4, pos := "laws.go:102", after := #[{ on := 25, ground := Ground.chain }, { on := 25, ground := Ground.guard }], guard := some (25, true) }) rfl (fun K hK => ?_) (AllReadyH.nil)
            go_simp
            go_at_call 10
            refine (implItemsValid_at none 0 0 [] true _ rfl (hide rfl) (fun i x hx => by simp at hx) (by omega) (fun x hx => by simp at hx)).mono ?_
            rintro e w20 ⟨rfl, hB20⟩
            have HS20 := hide (next hH22h.out hB20)
            clear hB20
            go_wp2_with fail
            refine hK.out _ _ HS20.out (fun hH26 => ?_)
            clear hK K
            try simp only [Act.put, List.setIfInBounds_toArray, List.set_cons_zero, List.set_cons_succ]
            have hH26h := hide (show Below w4.heap.size w4 _ from hH26)
            clear hH26
            refine wpAnyH_take (i := 27) (oi := { dst := some 49, op := Op.pick (Operand.tmp 47) (Operand.tmp 48) (Operand.const (Value.bool false)), type := 4, pos := "laws.go:102", after := #[{ on := 25, ground := Ground.data }, { on := 26, ground := Ground.data }], guard := none }) (v := ?v200) rfl (by kernel_rfl) (by kernel_rfl) (by kernel_rfl) (fun _ _ _ h => h) (Or.inl ⟨by rfl, ?hy200⟩) hH26h.out ?rest200
            case hy200 => (intro w9 hS9; go_simp; (try with_reducible rfl))
            simp only [Act.put, List.setIfInBounds_toArray, List.set_cons_zero, List.set_cons_succ]
            refine wpAnyH_take (i := 28) (oi := { dst := some 50, op := Op.move (Operand.tmp 49), type := 4, pos := "laws.go:102", after := #[{ on := 27, ground := Ground.data }, { on := 26, ground := Ground.chain }], guard := none }) (v := ?v201) rfl (by kernel_rfl) (by kernel_rfl) (by kernel_rfl) (fun _ _ _ h => h) (Or.inl ⟨by rfl, ?hy201⟩) hH26h.out ?rest201
            case hy201 => (intro w9 hS9; go_simp; (try with_reducible rfl))
            simp only [Act.put, List.setIfInBounds_toArray, List.set_cons_zero, List.set_cons_succ]
            refine wpAnyH_ready (rs := [29]) (by kernel_rfl) (by simp) ?_
            refine AllReadyH.cons (o := { dst := some 51, op := Op.call { callee := Callee.value (Operand.func 8), args := #[], argTypes := #[] }, type := 4, pos := "laws.go:102", after := #[{ on := 28, ground := Ground.chain }, { on := 28, ground := Ground.guard }], guard := some (28, true) }) rfl (fun K hK => ?_) (AllReadyH.nil)
            go_simp
            go_at_call 8
            refine (alive_any _).mono ?_
            rintro e w6 ⟨rfl, hB6⟩
            have HB6 := hide (next hH26h.out hB6)
            clear hB6
            go_wp2_with fail
            refine hK.out _ _ HB6.out (fun hH29 => ?_)
            clear hK K
            try simp only [Act.put, List.setIfInBounds_toArray, List.set_cons_zero, List.set_cons_succ]
            have hH29h := hide (show Below w4.heap.size w4 _ from hH29)
            clear hH29
            refine wpAnyH_take (i := 30) (oi := { dst := some 52, op := Op.pick (Operand.tmp 50) (Operand.tmp 51) (Operand.const (Value.bool false)), type := 4, pos := "laws.go:102", after := #[{ on := 28, ground := Ground.data }, { on := 29, ground := Ground.data }], guard := none }) (v := ?v202) rfl (by kernel_rfl) (by kernel_rfl) (by kernel_rfl) (fun _ _ _ h => h) (Or.inl ⟨by rfl, ?hy202⟩) hH29h.out ?rest202
            case hy202 => (intro w9 hS9; go_simp; (try with_reducible rfl))
            simp only [Act.put, List.setIfInBounds_toArray, List.set_cons_zero, List.set_cons_succ]
            refine wpAnyH_take (i := 31) (oi := { dst := some 2, op := Op.assign (Operand.tmp 52), type := 4, pos := "laws.go:102", after := #[{ on := 30, ground := Ground.data }, { on := 29, ground := Ground.chain }, { on := 0, ground := Ground.phase }, { on := 1, ground := Ground.phase }, { on := 2, ground := Ground.phase }, { on := 3, ground := Ground.phase }, { on := 4, ground := Ground.phase }, { on := 5, ground := Ground.phase }, { on := 6, ground := Ground.phase }, { on := 7, ground := Ground.phase }, { on := 8, ground := Ground.phase }, { on := 9, ground := Ground.phase }, { on := 10, ground := Ground.phase }, { on := 11, ground := Ground.phase }, { on := 12, ground := Ground.phase }, { on := 13, ground := Ground.phase }, { on := 14, ground := Ground.phase }, { on := 15, ground := Ground.phase }, { on := 16, ground := Ground.phase }, { on := 17, ground := Ground.phase }, { on := 18, ground := Ground.phase }, { on := 19, ground := Ground.phase }, { on := 20, ground := Ground.phase }, { on := 21, ground := Ground.phase }, { on := 22, ground := Ground.phase }, { on := 23, ground := Ground.phase }, { on := 24, ground := Ground.phase }, { on := 25, ground := Ground.phase }, { on := 26, ground := Ground.phase }, { on := 27, ground := Ground.phase }, { on := 28, ground := Ground.phase }, { on := 29, ground := Ground.phase }, { on := 30, ground := Ground.phase }], guard := none }) (v := ?v203) rfl (by kernel_rfl) (by kernel_rfl) (by kernel_rfl) (fun _ _ _ h => h) (Or.inl ⟨by rfl, ?hy203⟩) hH29h.out ?rest203
            case hy203 => (intro w9 hS9; go_simp; (try with_reducible rfl))
            simp only [Act.put, List.setIfInBounds_toArray, List.set_cons_zero, List.set_cons_succ]
            refine wpAnyH_done (by kernel_rfl) ?_ _
            refine NoPanic.normal ?_
            go_wp2_with fail
            go_ret
            exact ⟨rfl, next hb4 HB6.out⟩
          ·
            go_simp
            have HO16 := hide (ItemSl.alloc HO10.out (.cells #[.int .i64 1, .slice (some ⟨w3.heap.size, 0, none⟩) 1 1, .int .i64 0] 38))
            have HG16 : Hid (((w5.alloc (.cells #[] 38)).alloc (.cells #[.int .i64 1, .slice (some ⟨w3.heap.size, 0, none⟩) 1 1, .int .i64 0] 38)).heap[(w5.heap.size + 1)]? = some (.cells #[.int .i64 1, .slice (some ⟨w3.heap.size, 0, none⟩) 1 1, .int .i64 0] 38)) := hide (by rw [show w5.heap.size + 1 = (w5.alloc (.cells #[] 38)).heap.size by simp]; exact heap_alloc_new (w5.alloc (.cells #[] 38)) _)
            refine hK.out _ _ (Below.alloc hH16h.out (Below.size hH16h.out) _) (fun hH20 => ?_)
            clear hK K
            try simp only [Act.put, List.setIfInBounds_toArray, List.set_cons_zero, List.set_cons_succ]
            have hH20h := hide (show Below w4.heap.size w4 _ from hH20)
            clear hH20
            refine wpAnyH_ready (rs := [18]) (by kernel_rfl) (by simp) ?_
            refine AllReadyH.cons (o := { dst := some 40, op := Op.call { callee := Callee.builtin Builtin.append, args := #[Operand.tmp 38, Operand.tmp 39], argTypes := #[31, 31] }, type := 31, pos := "laws.go:102", after := #[{ on := 16, ground := Ground.data }, { on := 17, ground := Ground.data }, { on := 15, ground := Ground.chain }, { on := 15, ground := Ground.guard }], guard := some (15, true) }) rfl (fun K hK => ?_) (AllReadyH.nil)
            refine step_copy_item (by rfl) _ _ (by rfl) w5.heap.size (.slice (some ⟨w5.heap.size, 0, none⟩) 0 0) (by rfl) HO16.out (by simp) g c1 lo l (by rfl) (HS4.out.belowC hH20h.out) (by omega) (by first | exact Nat.le_refl _ | (simp; done) | (simp <;> omega)) ?_
            intro g12 cap12 w12 hown12 hgrow12
            have HLW := hide (fun (k : Nat) (hk : ((.slice (some ⟨w5.heap.size, 0, none⟩) 0 0) : Value).ownBlock = some k) => (by have := ItemSl.own_lt HO16.out k hk; exact this))
            have HS12 : Hid (Below w4.heap.size w4 w12) := hide (Below.grown hH20h.out hgrow12 (Below.size hH20h.out) (fun k hk => Nat.le_trans hz5 (HLW.out k hk).1))
            have HZ12 : w5.heap.size ≤ w12.heap.size := Nat.le_trans (by first | exact Nat.le_refl _ | (simp; done) | (simp <;> omega)) hgrow12.size
            have HG12 : Hid (w12.heap[(w5.heap.size + 1)]? = some (.cells #[.int .i64 1, .slice (some ⟨w3.heap.size, 0, none⟩) 1 1, .int .i64 0] 38)) := hide ((hgrow12.block _ (by first | (simp; done) | (simp; omega)) (fun e => by have e : some ((w5.heap.size + 1)) = some (w5.heap.size) := e; injection e with e; simp at e)).trans HG16.out)
            have HO12 : Hid (ItemSl w12 w5.heap.size (.slice (some ⟨g12, 0, none⟩) l.length cap12) l) := hide hown12
            clear hown12 hgrow12 HLW
            refine hK.out _ _ HS12.out (fun hH18 => ?_)
            clear hK K
            try simp only [Act.put, List.setIfInBounds_toArray, List.set_cons_zero, List.set_cons_succ]
            have hH18h := hide (show Below w4.heap.size w4 _ from hH18)
            clear hH18
            refine wpAnyH_ready (rs := [21]) (by kernel_rfl) (by simp) ?_
            refine AllReadyH.cons (o := { dst := some 43, op := Op.call { callee := Callee.builtin Builtin.append, args := #[Operand.tmp 40, Operand.tmp 42], argTypes := #[31, 31] }, type := 31, pos := "laws.go:102", after := #[{ on := 18, ground := Ground.data }, { on := 20, ground := Ground.data }, { on := 18, ground := Ground.chain }, { on := 15, ground := Ground.guard }], guard := some (15, true) }) rfl (fun K hK => ?_) (AllReadyH.nil)
            refine step_push_item (by rfl) _ _ (by rfl) w5.heap.size (.slice (some ⟨g12, 0, none⟩) l.length cap12) l (by rfl) HO12.out ((w5.heap.size + 1)) ⟨1, [⟨(l : List Item).length, 1⟩], 0⟩ (some ⟨w3.heap.size, 0, none⟩) 1 (by rfl) HG12.out (parts_lit ((Below.block hH18h.out _ hPl).trans HPT.out)).1 (parts_lit ((Below.block hH18h.out _ hPl).trans HPT.out)).2 (by first | omega | simp) (by first | exact HZ12 | (simp <;> omega)) ?_
            intro g17 cap17 w17 hown17 hgrow17
            have HS17 : Hid (Below w4.heap.size w4 w17) := hide (Below.grown hH18h.out hgrow17 (Below.size hH18h.out) (fun k hk => Nat.le_trans hz5 (ItemSl.own_lt HO12.out k hk).1))
            have HO17 := hide hown17
            clear hown17 hgrow17
            refine hK.out _ _ HS17.out (fun hH21 => ?_)
            clear hK K
            try simp only [Act.put, List.setIfInBounds_toArray, List.set_cons_zero, List.set_cons_succ]
            have hH21h := hide (show Below w4.heap.size w4 _ from hH21)
            clear hH21
            refine wpAnyH_ready (rs := [22]) (by kernel_rfl) (by simp) ?_
            refine AllReadyH.cons (o := { dst := some 44, op := Op.call { callee := Callee.value (Operand.func 10), args := #[Operand.tmp 43], argTypes := #[31] }, type := 4, pos := "laws.go:102", after := #[{ on := 21, ground := Ground.data }, { on := 21, ground := Ground.chain }, { on := 15, ground := Ground.guard }], guard := some (15, true) }) rfl (fun K hK => ?_) (AllReadyH.nil)
            go_simp
            go_at_call 10
            refine (implItemsValid_at _ _ _ _ _ _ (by simp) HWR HO17.out.itemsAt (by first | omega | simp) HPW.out).mono ?_
            rintro e w19 ⟨rfl, hB19⟩
            have HS19 := hide (next hH21h.out hB19)
            clear hB19
            go_wp2_with fail
            refine hK.out _ _ HS19.out (fun hH22 => ?_)
            clear hK K
            try simp only [Act.put, List.setIfInBounds_toArray, List.set_cons_zero, List.set_cons_succ]
            have hH22h := hide (show Below w4.heap.size w4 _ from hH22)
            clear hH22
            refine wpAnyH_take (i := 23) (oi := { dst := some 45, op := Op.unOp UnOp.not 4 (Operand.tmp 44), type := 4, pos := "laws.go:102", after := #[{ on := 22, ground := Ground.data }, { on := 15, ground := Ground.guard }], guard := some (15, true) }) (v := ?v204) rfl (by kernel_rfl) (by kernel_rfl) (by kernel_rfl) (fun _ _ _ h => h) (Or.inl ⟨by rfl, ?hy204⟩) hH22h.out ?rest204
            case hy204 => (intro w9 hS9; go_simp; (try with_reducible rfl))
            simp only [Act.put, List.setIfInBounds_toArray, List.set_cons_zero, List.set_cons_succ]
            refine wpAnyH_take (i := 24) (oi := { dst := some 46, op := Op.pick (Operand.tmp 37) (Operand.tmp 45) (Operand.const (Value.bool false)), type := 4, pos := "laws.go:102", after := #[{ on := 15, ground := Ground.data }, { on := 23, ground := Ground.data }], guard := none }) (v := ?v205) rfl (by kernel_rfl) (by kernel_rfl) (by kernel_rfl) (fun _ _ _ h => h) (Or.inl ⟨by rfl, ?hy205⟩) hH22h.out ?rest205
            case hy205 => (intro w9 hS9; go_simp; (try with_reducible rfl))
            simp only [Act.put, List.setIfInBounds_toArray, List.set_cons_zero, List.set_cons_succ]
            refine wpAnyH_take (i := 25) (oi := { dst := some 47, op := Op.move (Operand.tmp 46), type := 4, pos := "laws.go:102", after := #[{ on := 24, ground := Ground.data }, { on := 22, ground := Ground.chain }], guard := none }) (v := ?v206) rfl (by kernel_rfl) (by kernel_rfl) (by kernel_rfl) (fun _ _ _ h => h) (Or.inl ⟨by rfl, ?hy206⟩) hH22h.out ?rest206
            case hy206 => (intro w9 hS9; go_simp; (try with_reducible rfl))
            simp only [Act.put, List.setIfInBounds_toArray, List.set_cons_zero, List.set_cons_succ]
            refine wpAnyH_ready (rs := [26]) (by kernel_rfl) (by simp) ?_
            refine AllReadyH.cons (o := { dst := some 48, op := Op.call { callee := Callee.value (Operand.func 10), args := #[Operand.const (Value.slice none 0 0)], argTypes := #[31] }, type := 4, pos := "laws.go:102", after := #[{ on := 25, ground := Ground.chain }, { on := 25, ground := Ground.guard }], guard := some (25, true) }) rfl (fun K hK => ?_) (AllReadyH.nil)
            go_simp
            go_at_call 10
            refine (implItemsValid_at none 0 0 [] true _ rfl (hide rfl) (fun i x hx => by simp at hx) (by omega) (fun x hx => by simp at hx)).mono ?_
            rintro e w20 ⟨rfl, hB20⟩
            have HS20 := hide (next hH22h.out hB20)
            clear hB20
            go_wp2_with fail
            refine hK.out _ _ HS20.out (fun hH26 => ?_)
            clear hK K
            try simp only [Act.put, List.setIfInBounds_toArray, List.set_cons_zero, List.set_cons_succ]
            have hH26h := hide (show Below w4.heap.size w4 _ from hH26)
            clear hH26
            refine wpAnyH_take (i := 27) (oi := { dst := some 49, op := Op.pick (Operand.tmp 47) (Operand.tmp 48) (Operand.const (Value.bool false)), type := 4, pos := "laws.go:102", after := #[{ on := 25, ground := Ground.data }, { on := 26, ground := Ground.data }], guard := none }) (v := ?v207) rfl (by kernel_rfl) (by kernel_rfl) (by kernel_rfl) (fun _ _ _ h => h) (Or.inl ⟨by rfl, ?hy207⟩) hH26h.out ?rest207
            case hy207 => (intro w9 hS9; go_simp; (try with_reducible rfl))
            simp only [Act.put, List.setIfInBounds_toArray, List.set_cons_zero, List.set_cons_succ]
            refine wpAnyH_take (i := 28) (oi := { dst := some 50, op := Op.move (Operand.tmp 49), type := 4, pos := "laws.go:102", after := #[{ on := 27, ground := Ground.data }, { on := 26, ground := Ground.chain }], guard := none }) (v := ?v208) rfl (by kernel_rfl) (by kernel_rfl) (by kernel_rfl) (fun _ _ _ h => h) (Or.inl ⟨by rfl, ?hy208⟩) hH26h.out ?rest208
            case hy208 => (intro w9 hS9; go_simp; (try with_reducible rfl))
            simp only [Act.put, List.setIfInBounds_toArray, List.set_cons_zero, List.set_cons_succ]
            refine wpAnyH_ready (rs := [29]) (by kernel_rfl) (by simp) ?_
            refine AllReadyH.cons (o := { dst := some 51, op := Op.call { callee := Callee.value (Operand.func 8), args := #[], argTypes := #[] }, type := 4, pos := "laws.go:102", after := #[{ on := 28, ground := Ground.chain }, { on := 28, ground := Ground.guard }], guard := some (28, true) }) rfl (fun K hK => ?_) (AllReadyH.nil)
            go_simp
            go_at_call 8
            refine (alive_any _).mono ?_
            rintro e w6 ⟨rfl, hB6⟩
            have HB6 := hide (next hH26h.out hB6)
            clear hB6
            go_wp2_with fail
            refine hK.out _ _ HB6.out (fun hH29 => ?_)
            clear hK K
            try simp only [Act.put, List.setIfInBounds_toArray, List.set_cons_zero, List.set_cons_succ]
            have hH29h := hide (show Below w4.heap.size w4 _ from hH29)
            clear hH29
            refine wpAnyH_take (i := 30) (oi := { dst := some 52, op := Op.pick (Operand.tmp 50) (Operand.tmp 51) (Operand.const (Value.bool false)), type := 4, pos := "laws.go:102", after := #[{ on := 28, ground := Ground.data }, { on := 29, ground := Ground.data }], guard := none }) (v := ?v209) rfl (by kernel_rfl) (by kernel_rfl) (by kernel_rfl) (fun _ _ _ h => h) (Or.inl ⟨by rfl, ?hy209⟩) hH29h.out ?rest209
            case hy209 => (intro w9 hS9; go_simp; (try with_reducible rfl))
            simp only [Act.put, List.setIfInBounds_toArray, List.set_cons_zero, List.set_cons_succ]
            refine wpAnyH_take (i := 31) (oi := { dst := some 2, op := Op.assign (Operand.tmp 52), type := 4, pos := "laws.go:102", after := #[{ on := 30, ground := Ground.data }, { on := 29, ground := Ground.chain }, { on := 0, ground := Ground.phase }, { on := 1, ground := Ground.phase }, { on := 2, ground := Ground.phase }, { on := 3, ground := Ground.phase }, { on := 4, ground := Ground.phase }, { on := 5, ground := Ground.phase }, { on := 6, ground := Ground.phase }, { on := 7, ground := Ground.phase }, { on := 8, ground := Ground.phase }, { on := 9, ground := Ground.phase }, { on := 10, ground := Ground.phase }, { on := 11, ground := Ground.phase }, { on := 12, ground := Ground.phase }, { on := 13, ground := Ground.phase }, { on := 14, ground := Ground.phase }, { on := 15, ground := Ground.phase }, { on := 16, ground := Ground.phase }, { on := 17, ground := Ground.phase }, { on := 18, ground := Ground.phase }, { on := 19, ground := Ground.phase }, { on := 20, ground := Ground.phase }, { on := 21, ground := Ground.phase }, { on := 22, ground := Ground.phase }, { on := 23, ground := Ground.phase }, { on := 24, ground := Ground.phase }, { on := 25, ground := Ground.phase }, { on := 26, ground := Ground.phase }, { on := 27, ground := Ground.phase }, { on := 28, ground := Ground.phase }, { on := 29, ground := Ground.phase }, { on := 30, ground := Ground.phase }], guard := none }) (v := ?v210) rfl (by kernel_rfl) (by kernel_rfl) (by kernel_rfl) (fun _ _ _ h => h) (Or.inl ⟨by rfl, ?hy210⟩) hH29h.out ?rest210
            case hy210 => (intro w9 hS9; go_simp; (try with_reducible rfl))
            simp only [Act.put, List.setIfInBounds_toArray, List.set_cons_zero, List.set_cons_succ]
            refine wpAnyH_done (by kernel_rfl) ?_ _
            refine NoPanic.normal ?_
            go_wp2_with fail
            go_ret
            exact ⟨rfl, next hb4 HB6.out⟩
        ·
          go_simp
          have HG16 : Hid ((w5.alloc (.cells #[.int .i64 1, .slice (some ⟨w3.heap.size, 0, none⟩) 1 1, .int .i64 0] 38)).heap[w5.heap.size]? = some (.cells #[.int .i64 1, .slice (some ⟨w3.heap.size, 0, none⟩) 1 1, .int .i64 0] 38)) := hide (by exact heap_alloc_new w5 _)
          refine hK.out _ _ (Below.alloc hH0h.out (Below.size hH0h.out) _) (fun hH20 => ?_)
          clear hK K
          try simp only [Act.put, List.setIfInBounds_toArray, List.set_cons_zero, List.set_cons_succ]
          have hH20h := hide (show Below w4.heap.size w4 _ from hH20)
          clear hH20
          refine wpAnyH_ready (rs := [16]) (by kernel_rfl) (by simp) ?_
          refine AllReadyH.cons (o := { dst := some 38, op := Op.buildSlice 31 0 #[], type := 31, pos := "laws.go:102", after := #[{ on := 15, ground := Ground.guard }], guard := some (15, true) }) rfl (fun K hK => ?_) (AllReadyH.nil)
          go_simp
          have HO10 : Hid (ItemSl ((w5.alloc (.cells #[.int .i64 1, .slice (some ⟨w3.heap.size, 0, none⟩) 1 1, .int .i64 0] 38)).alloc (.cells #[] 38)) w5.heap.size (.slice (some ⟨(w5.heap.size + 1), 0, none⟩) 0 0) []) := hide ⟨[], by rw [show w5.heap.size + 1 = (w5.alloc (.cells #[.int .i64 1, .slice (some ⟨w3.heap.size, 0, none⟩) 1 1, .int .i64 0] 38)).heap.size by simp]; exact World.ownsRow_lit (w5.alloc (.cells #[.int .i64 1, .slice (some ⟨w3.heap.size, 0, none⟩) 1 1, .int .i64 0] 38)) #[] 0 (by first | exact Nat.le_refl _ | (simp; done) | (simp <;> omega)) (by unfold maxLen; omega) rfl, fun i x hx => by simp at hx⟩
          have HG10 : Hid (((w5.alloc (.cells #[.int .i64 1, .slice (some ⟨w3.heap.size, 0, none⟩) 1 1, .int .i64 0] 38)).alloc (.cells #[] 38)).heap[w5.heap.size]? = some (.cells #[.int .i64 1, .slice (some ⟨w3.heap.size, 0, none⟩) 1 1, .int .i64 0] 38)) := hide (((World.grownBy_alloc (w5.alloc (.cells #[.int .i64 1, .slice (some ⟨w3.heap.size, 0, none⟩) 1 1, .int .i64 0] 38)) _ none).block _ (by simp) (by simp)).trans HG16.out)
          refine hK.out _ _ (Below.alloc hH20h.out (Below.size hH20h.out) _) (fun hH16 => ?_)
          clear hK K
          try simp only [Act.put, List.setIfInBounds_toArray, List.set_cons_zero, List.set_cons_succ]
          have hH16h := hide (show Below w4.heap.size w4 _ from hH16)
          clear hH16
          refine wpAnyH_ready (rs := [18]) (by kernel_rfl) (by simp) ?_
          refine AllReadyH.cons (o := { dst := some 40, op := Op.call { callee := Callee.builtin Builtin.append, args := #[Operand.tmp 38, Operand.tmp 39], argTypes := #[31, 31] }, type := 31, pos := "laws.go:102", after := #[{ on := 16, ground := Ground.data }, { on := 17, ground := Ground.data }, { on := 15, ground := Ground.chain }, { on := 15, ground := Ground.guard }], guard := some (15, true) }) rfl (fun K hK => ?_) (AllReadyH.nil)
          refine step_copy_item (by rfl) _ _ (by rfl) w5.heap.size (.slice (some ⟨(w5.heap.size + 1), 0, none⟩) 0 0) (by rfl) HO10.out (by simp) g c1 lo l (by rfl) (HS4.out.belowC hH16h.out) (by omega) (by first | exact Nat.le_refl _ | (simp; done) | (simp <;> omega)) ?_
          intro g12 cap12 w12 hown12 hgrow12
          have HLW := hide (fun (k : Nat) (hk : ((.slice (some ⟨(w5.heap.size + 1), 0, none⟩) 0 0) : Value).ownBlock = some k) => (by have := ItemSl.own_lt HO10.out k hk; exact this))
          have HS12 : Hid (Below w4.heap.size w4 w12) := hide (Below.grown hH16h.out hgrow12 (Below.size hH16h.out) (fun k hk => Nat.le_trans hz5 (HLW.out k hk).1))
          have HZ12 : w5.heap.size ≤ w12.heap.size := Nat.le_trans (by first | exact Nat.le_refl _ | (simp; done) | (simp <;> omega)) hgrow12.size
          have HG12 : Hid (w12.heap[w5.heap.size]? = some (.cells #[.int .i64 1, .slice (some ⟨w3.heap.size, 0, none⟩) 1 1, .int .i64 0] 38)) := hide ((hgrow12.block _ (by first | (simp; done) | (simp; omega)) (fun e => by have e : some (w5.heap.size) = some ((w5.heap.size + 1)) := e; injection e with e; simp at e)).trans HG10.out)
          have HO12 : Hid (ItemSl w12 w5.heap.size (.slice (some ⟨g12, 0, none⟩) l.length cap12) l) := hide hown12
          clear hown12 hgrow12 HLW
          refine hK.out _ _ HS12.out (fun hH18 => ?_)
          clear hK K
          try simp only [Act.put, List.setIfInBounds_toArray, List.set_cons_zero, List.set_cons_succ]
          have hH18h := hide (show Below w4.heap.size w4 _ from hH18)
          clear hH18
          refine wpAnyH_ready (rs := [21]) (by kernel_rfl) (by simp) ?_
          refine AllReadyH.cons (o := { dst := some 43, op := Op.call { callee := Callee.builtin Builtin.append, args := #[Operand.tmp 40, Operand.tmp 42], argTypes := #[31, 31] }, type := 31, pos := "laws.go:102", after := #[{ on := 18, ground := Ground.data }, { on := 20, ground := Ground.data }, { on := 18, ground := Ground.chain }, { on := 15, ground := Ground.guard }], guard := some (15, true) }) rfl (fun K hK => ?_) (AllReadyH.nil)
          refine step_push_item (by rfl) _ _ (by rfl) w5.heap.size (.slice (some ⟨g12, 0, none⟩) l.length cap12) l (by rfl) HO12.out (w5.heap.size) ⟨1, [⟨(l : List Item).length, 1⟩], 0⟩ (some ⟨w3.heap.size, 0, none⟩) 1 (by rfl) HG12.out (parts_lit ((Below.block hH18h.out _ hPl).trans HPT.out)).1 (parts_lit ((Below.block hH18h.out _ hPl).trans HPT.out)).2 (by first | omega | simp) (by first | exact HZ12 | (simp <;> omega)) ?_
          intro g17 cap17 w17 hown17 hgrow17
          have HS17 : Hid (Below w4.heap.size w4 w17) := hide (Below.grown hH18h.out hgrow17 (Below.size hH18h.out) (fun k hk => Nat.le_trans hz5 (ItemSl.own_lt HO12.out k hk).1))
          have HO17 := hide hown17
          clear hown17 hgrow17
          refine hK.out _ _ HS17.out (fun hH21 => ?_)
          clear hK K
          try simp only [Act.put, List.setIfInBounds_toArray, List.set_cons_zero, List.set_cons_succ]
          have hH21h := hide (show Below w4.heap.size w4 _ from hH21)
          clear hH21
          refine wpAnyH_ready (rs := [22]) (by kernel_rfl) (by simp) ?_
          refine AllReadyH.cons (o := { dst := some 44, op := Op.call { callee := Callee.value (Operand.func 10), args := #[Operand.tmp 43], argTypes := #[31] }, type := 4, pos := "laws.go:102", after := #[{ on := 21, ground := Ground.data }, { on := 21, ground := Ground.chain }, { on := 15, ground := Ground.guard }], guard := some (15, true) }) rfl (fun K hK => ?_) (AllReadyH.nil)
          go_simp
          go_at_call 10
          refine (implItemsValid_at _ _ _ _ _ _ (by simp) HWR HO17.out.itemsAt (by first | omega | simp) HPW.out).mono ?_
          rintro e w19 ⟨rfl, hB19⟩
          have HS19 := hide (next hH21h.out hB19)
          clear hB19
          go_wp2_with fail
          refine hK.out _ _ HS19.out (fun hH22 => ?_)
          clear hK K
          try simp only [Act.put, List.setIfInBounds_toArray, List.set_cons_zero, List.set_cons_succ]
          have hH22h := hide (show Below w4.heap.size w4 _ from hH22)
          clear hH22
          refine wpAnyH_take (i := 23) (oi := { dst := some 45, op := Op.unOp UnOp.not 4 (Operand.tmp 44), type := 4, pos := "laws.go:102", after := #[{ on := 22, ground := Ground.data }, { on := 15, ground := Ground.guard }], guard := some (15, true) }) (v := ?v211) rfl (by kernel_rfl) (by kernel_rfl) (by kernel_rfl) (fun _ _ _ h => h) (Or.inl ⟨by rfl, ?hy211⟩) hH22h.out ?rest211
          case hy211 => (intro w9 hS9; go_simp; (try with_reducible rfl))
          simp only [Act.put, List.setIfInBounds_toArray, List.set_cons_zero, List.set_cons_succ]
          refine wpAnyH_take (i := 24) (oi := { dst := some 46, op := Op.pick (Operand.tmp 37) (Operand.tmp 45) (Operand.const (Value.bool false)), type := 4, pos := "laws.go:102", after := #[{ on := 15, ground := Ground.data }, { on := 23, ground := Ground.data }], guard := none }) (v := ?v212) rfl (by kernel_rfl) (by kernel_rfl) (by kernel_rfl) (fun _ _ _ h => h) (Or.inl ⟨by rfl, ?hy212⟩) hH22h.out ?rest212
          case hy212 => (intro w9 hS9; go_simp; (try with_reducible rfl))
          simp only [Act.put, List.setIfInBounds_toArray, List.set_cons_zero, List.set_cons_succ]
          refine wpAnyH_take (i := 25) (oi := { dst := some 47, op := Op.move (Operand.tmp 46), type := 4, pos := "laws.go:102", after := #[{ on := 24, ground := Ground.data }, { on := 22, ground := Ground.chain }], guard := none }) (v := ?v213) rfl (by kernel_rfl) (by kernel_rfl) (by kernel_rfl) (fun _ _ _ h => h) (Or.inl ⟨by rfl, ?hy213⟩) hH22h.out ?rest213
          case hy213 => (intro w9 hS9; go_simp; (try with_reducible rfl))
          simp only [Act.put, List.setIfInBounds_toArray, List.set_cons_zero, List.set_cons_succ]
          refine wpAnyH_ready (rs := [26]) (by kernel_rfl) (by simp) ?_
          refine AllReadyH.cons (o := { dst := some 48, op := Op.call { callee := Callee.value (Operand.func 10), args := #[Operand.const (Value.slice none 0 0)], argTypes := #[31] }, type := 4, pos := "laws.go:102", after := #[{ on := 25, ground := Ground.chain }, { on := 25, ground := Ground.guard }], guard := some (25, true) }) rfl (fun K hK => ?_) (AllReadyH.nil)
          go_simp
          go_at_call 10
          refine (implItemsValid_at none 0 0 [] true _ rfl (hide rfl) (fun i x hx => by simp at hx) (by omega) (fun x hx => by simp at hx)).mono ?_
          rintro e w20 ⟨rfl, hB20⟩
          have HS20 := hide (next hH22h.out hB20)
          clear hB20
          go_wp2_with fail
          refine hK.out _ _ HS20.out (fun hH26 => ?_)
          clear hK K
          try simp only [Act.put, List.setIfInBounds_toArray, List.set_cons_zero, List.set_cons_succ]
          have hH26h := hide (show Below w4.heap.size w4 _ from hH26)
          clear hH26
          refine wpAnyH_take (i := 27) (oi := { dst := some 49, op := Op.pick (Operand.tmp 47) (Operand.tmp 48) (Operand.const (Value.bool false)), type := 4, pos := "laws.go:102", after := #[{ on := 25, ground := Ground.data }, { on := 26, ground := Ground.data }], guard := none }) (v := ?v214) rfl (by kernel_rfl) (by kernel_rfl) (by kernel_rfl) (fun _ _ _ h => h) (Or.inl ⟨by rfl, ?hy214⟩) hH26h.out ?rest214
          case hy214 => (intro w9 hS9; go_simp; (try with_reducible rfl))
          simp only [Act.put, List.setIfInBounds_toArray, List.set_cons_zero, List.set_cons_succ]
          refine wpAnyH_take (i := 28) (oi := { dst := some 50, op := Op.move (Operand.tmp 49), type := 4, pos := "laws.go:102", after := #[{ on := 27, ground := Ground.data }, { on := 26, ground := Ground.chain }], guard := none }) (v := ?v215) rfl (by kernel_rfl) (by kernel_rfl) (by kernel_rfl) (fun _ _ _ h => h) (Or.inl ⟨by rfl, ?hy215⟩) hH26h.out ?rest215
          case hy215 => (intro w9 hS9; go_simp; (try with_reducible rfl))
          simp only [Act.put, List.setIfInBounds_toArray, List.set_cons_zero, List.set_cons_succ]
          refine wpAnyH_ready (rs := [29]) (by kernel_rfl) (by simp) ?_
          refine AllReadyH.cons (o := { dst := some 51, op := Op.call { callee := Callee.value (Operand.func 8), args := #[], argTypes := #[] }, type := 4, pos := "laws.go:102", after := #[{ on := 28, ground := Ground.chain }, { on := 28, ground := Ground.guard }], guard := some (28, true) }) rfl (fun K hK => ?_) (AllReadyH.nil)
          go_simp
          go_at_call 8
          refine (alive_any _).mono ?_
          rintro e w6 ⟨rfl, hB6⟩
          have HB6 := hide (next hH26h.out hB6)
          clear hB6
          go_wp2_with fail
          refine hK.out _ _ HB6.out (fun hH29 => ?_)
          clear hK K
          try simp only [Act.put, List.setIfInBounds_toArray, List.set_cons_zero, List.set_cons_succ]
          have hH29h := hide (show Below w4.heap.size w4 _ from hH29)
          clear hH29
          refine wpAnyH_take (i := 30) (oi := { dst := some 52, op := Op.pick (Operand.tmp 50) (Operand.tmp 51) (Operand.const (Value.bool false)), type := 4, pos := "laws.go:102", after := #[{ on := 28, ground := Ground.data }, { on := 29, ground := Ground.data }], guard := none }) (v := ?v216) rfl (by kernel_rfl) (by kernel_rfl) (by kernel_rfl) (fun _ _ _ h => h) (Or.inl ⟨by rfl, ?hy216⟩) hH29h.out ?rest216
          case hy216 => (intro w9 hS9; go_simp; (try with_reducible rfl))
          simp only [Act.put, List.setIfInBounds_toArray, List.set_cons_zero, List.set_cons_succ]
          refine wpAnyH_take (i := 31) (oi := { dst := some 2, op := Op.assign (Operand.tmp 52), type := 4, pos := "laws.go:102", after := #[{ on := 30, ground := Ground.data }, { on := 29, ground := Ground.chain }, { on := 0, ground := Ground.phase }, { on := 1, ground := Ground.phase }, { on := 2, ground := Ground.phase }, { on := 3, ground := Ground.phase }, { on := 4, ground := Ground.phase }, { on := 5, ground := Ground.phase }, { on := 6, ground := Ground.phase }, { on := 7, ground := Ground.phase }, { on := 8, ground := Ground.phase }, { on := 9, ground := Ground.phase }, { on := 10, ground := Ground.phase }, { on := 11, ground := Ground.phase }, { on := 12, ground := Ground.phase }, { on := 13, ground := Ground.phase }, { on := 14, ground := Ground.phase }, { on := 15, ground := Ground.phase }, { on := 16, ground := Ground.phase }, { on := 17, ground := Ground.phase }, { on := 18, ground := Ground.phase }, { on := 19, ground := Ground.phase }, { on := 20, ground := Ground.phase }, { on := 21, ground := Ground.phase }, { on := 22, ground := Ground.phase }, { on := 23, ground := Ground.phase }, { on := 24, ground := Ground.phase }, { on := 25, ground := Ground.phase }, { on := 26, ground := Ground.phase }, { on := 27, ground := Ground.phase }, { on := 28, ground := Ground.phase }, { on := 29, ground := Ground.phase }, { on := 30, ground := Ground.phase }], guard := none }) (v := ?v217) rfl (by kernel_rfl) (by kernel_rfl) (by kernel_rfl) (fun _ _ _ h => h) (Or.inl ⟨by rfl, ?hy217⟩) hH29h.out ?rest217
          case hy217 => (intro w9 hS9; go_simp; (try with_reducible rfl))
          simp only [Act.put, List.setIfInBounds_toArray, List.set_cons_zero, List.set_cons_succ]
          refine wpAnyH_done (by kernel_rfl) ?_ _
          refine NoPanic.normal ?_
          go_wp2_with fail
          go_ret
          exact ⟨rfl, next hb4 HB6.out⟩
      | true =>
        by_cases h0 : l.length = 0
        · have hl0 : ((l.length : Int) == 0) = true := by simp [h0]
          have h09 := hide h0
          clear h0
          refine wp_region_noPanic ?_
          refine wp_region_held_drew (S := fun W => Below w4.heap.size w4 W) (by kernel_rfl) (by go_grown) (fun hH0 => ?_)
          have hH0h := hide (show Below w4.heap.size w4 _ from hH0)
          clear hH0
          obtain ⟨w5, hw5⟩ : ∃ w5, World.drew w4 = w5 := ⟨_, rfl⟩
          rw [hw5] at hH0h ⊢
          have hz5 : w4.heap.size ≤ w5.heap.size := by rw [← hw5]; exact Nat.le_refl _
          clear hw5
          refine wpAnyH_take (i := 0) (oi := { dst := some 22, op := Op.move (Operand.tmp 4), type := 4, pos := "laws.go:102", after := #[], guard := none }) (v := ?v218) rfl (by kernel_rfl) (by kernel_rfl) (by kernel_rfl) (fun _ _ _ h => h) (Or.inl ⟨by rfl, ?hy218⟩) hH0h.out ?rest218
          case hy218 => (intro w9 hS9; go_simp; (try with_reducible rfl))
          simp only [Act.put, List.setIfInBounds_toArray, List.set_cons_zero, List.set_cons_succ]
          refine wpAnyH_take (i := 1) (oi := { dst := some 23, op := Op.unOp UnOp.not 4 (Operand.tmp 22), type := 4, pos := "laws.go:102", after := #[{ on := 0, ground := Ground.data }], guard := none }) (v := ?v219) rfl (by kernel_rfl) (by kernel_rfl) (by kernel_rfl) (fun _ _ _ h => h) (Or.inl ⟨by rfl, ?hy219⟩) hH0h.out ?rest219
          case hy219 => (intro w9 hS9; go_simp; (try with_reducible rfl))
          simp only [Act.put, List.setIfInBounds_toArray, List.set_cons_zero, List.set_cons_succ]
          refine wpAnyH_take (i := 2) (oi := { dst := some 24, op := Op.move (Operand.tmp 23), type := 4, pos := "laws.go:102", after := #[{ on := 1, ground := Ground.data }], guard := none }) (v := ?v220) rfl (by kernel_rfl) (by kernel_rfl) (by kernel_rfl) (fun _ _ _ h => h) (Or.inl ⟨by rfl, ?hy220⟩) hH0h.out ?rest220
          case hy220 => (intro w9 hS9; go_simp; (try with_reducible rfl))
          simp only [Act.put, List.setIfInBounds_toArray, List.set_cons_zero, List.set_cons_succ]
          refine wpAnyH_take (i := 3) (oi := { dst := some 25, op := Op.move (Operand.tmp 3), type := 31, pos := "laws.go:102", after := #[{ on := 2, ground := Ground.guard }], guard := some (2, false) }) (v := ?v221) rfl (by kernel_rfl) (by kernel_rfl) (by kernel_rfl) (fun _ _ _ h => h) (Or.inl ⟨by rfl, ?hy221⟩) hH0h.out ?rest221
          case hy221 => (intro w9 hS9; go_simp; (try with_reducible rfl))
          simp only [Act.put, List.setIfInBounds_toArray, List.set_cons_zero, List.set_cons_succ]
          refine wpAnyH_take (i := 4) (oi := { dst := some 26, op := Op.call { callee := Callee.builtin Builtin.len, args := #[Operand.tmp 25], argTypes := #[31] }, type := 3, pos := "laws.go:102", after := #[{ on := 3, ground := Ground.data }, { on := 2, ground := Ground.guard }], guard := some (2, false) }) (v := ?v222) rfl (by kernel_rfl) (by kernel_rfl) (by kernel_rfl) (fun _ _ _ h => h) (Or.inl ⟨by rfl, ?hy222⟩) hH0h.out ?rest222
          case hy222 => (intro w9 hS9; go_simp; (try with_reducible rfl))
          simp only [Act.put, List.setIfInBounds_toArray, List.set_cons_zero, List.set_cons_succ]
          refine wpAnyH_take (i := 5) (oi := { dst := some 27, op := Op.binOp BinOp.eql 3 (Operand.tmp 26) (Operand.const (Value.int IntKind.i64 0)) 3, type := 4, pos := "laws.go:102", after := #[{ on := 4, ground := Ground.data }, { on := 2, ground := Ground.guard }], guard := some (2, false) }) (v := ?v223) rfl (by kernel_rfl) (by kernel_rfl) (by kernel_rfl) (fun _ _ _ h => h) (Or.inl ⟨by rfl, ?hy223⟩) hH0h.out ?rest223
          case hy223 => (intro w9 hS9; go_simp; (try with_reducible rfl))
          simp only [Act.put, List.setIfInBounds_toArray, List.set_cons_zero, List.set_cons_succ]
          refine wpAnyH_take (i := 6) (oi := { dst := some 28, op := Op.pick (Operand.tmp 24) (Operand.const (Value.bool true)) (Operand.tmp 27), type := 4, pos := "laws.go:102", after := #[{ on := 2, ground := Ground.data }, { on := 5, ground := Ground.data }], guard := none }) (v := ?v224) rfl (by kernel_rfl) (by kernel_rfl) (by kernel_rfl) (fun _ _ _ h => h) (Or.inl ⟨by rfl, ?hy224⟩) hH0h.out ?rest224
          case hy224 => (intro w9 hS9; go_simp; (try with_reducible rfl))
          simp only [Act.put, List.setIfInBounds_toArray, List.set_cons_zero, List.set_cons_succ]
          refine wpAnyH_take (i := 7) (oi := { dst := some 29, op := Op.move (Operand.tmp 28), type := 4, pos := "laws.go:102", after := #[{ on := 6, ground := Ground.data }, { on := 2, ground := Ground.chain }], guard := none }) (v := ?v225) rfl (by kernel_rfl) (by kernel_rfl) (by kernel_rfl) (fun _ _ _ h => h) (Or.inl ⟨by rfl, ?hy225⟩) hH0h.out ?rest225
          case hy225 => (intro w9 hS9; go_simp; (try with_reducible rfl))
          simp only [Act.put, List.setIfInBounds_toArray, List.set_cons_zero, List.set_cons_succ]
          refine wpAnyH_take (i := 8) (oi := { dst := some 30, op := Op.move (Operand.tmp 3), type := 31, pos := "laws.go:102", after := #[{ on := 7, ground := Ground.guard }], guard := some (7, false) }) (v := undef) rfl (by kernel_rfl) (by kernel_rfl) (by kernel_rfl) (fun _ _ _ h => h) (Or.inr ⟨by rfl, rfl⟩) hH0h.out ?_
          simp only [Act.put, List.setIfInBounds_toArray, List.set_cons_zero, List.set_cons_succ]
          refine wpAnyH_take (i := 9) (oi := { dst := some 31, op := Op.move (Operand.tmp 3), type := 31, pos := "laws.go:102", after := #[{ on := 7, ground := Ground.guard }], guard := some (7, false) }) (v := undef) rfl (by kernel_rfl) (by kernel_rfl) (by kernel_rfl) (fun _ _ _ h => h) (Or.inr ⟨by rfl, rfl⟩) hH0h.out ?_
          simp only [Act.put, List.setIfInBounds_toArray, List.set_cons_zero, List.set_cons_succ]
          refine wpAnyH_take (i := 10) (oi := { dst := some 32, op := Op.call { callee := Callee.builtin Builtin.len, args := #[Operand.tmp 31], argTypes := #[31] }, type := 3, pos := "laws.go:102", after := #[{ on := 9, ground := Ground.data }, { on := 7, ground := Ground.guard }], guard := some (7, false) }) (v := undef) rfl (by kernel_rfl) (by kernel_rfl) (by kernel_rfl) (fun _ _ _ h => h) (Or.inr ⟨by rfl, rfl⟩) hH0h.out ?_
          simp only [Act.put, List.setIfInBounds_toArray, List.set_cons_zero, List.set_cons_succ]
          refine wpAnyH_take (i := 11) (oi := { dst := some 33, op := Op.binOp BinOp.sub 3 (Operand.tmp 32) (Operand.const (Value.int IntKind.i64 1)) 3, type := 3, pos := "laws.go:102", after := #[{ on := 10, ground := Ground.data }, { on := 7, ground := Ground.guard }], guard := some (7, false) }) (v := undef) rfl (by kernel_rfl) (by kernel_rfl) (by kernel_rfl) (fun _ _ _ h => h) (Or.inr ⟨by rfl, rfl⟩) hH0h.out ?_
          simp only [Act.put, List.setIfInBounds_toArray, List.set_cons_zero, List.set_cons_succ]
          refine wpAnyH_take (i := 12) (oi := { dst := some 34, op := Op.slice 31 (Operand.tmp 30) none (some (Operand.tmp 33)) none, type := 31, pos := "laws.go:102", after := #[{ on := 8, ground := Ground.data }, { on := 11, ground := Ground.data }, { on := 7, ground := Ground.guard }], guard := some (7, false) }) (v := undef) rfl (by kernel_rfl) (by kernel_rfl) (by kernel_rfl) (fun _ _ _ h => h) (Or.inr ⟨by rfl, rfl⟩) hH0h.out ?_
          simp only [Act.put, List.setIfInBounds_toArray, List.set_cons_zero, List.set_cons_succ]
          refine wpAnyH_take (i := 13) (oi := { dst := some 35, op := Op.call { callee := Callee.value (Operand.func 10), args := #[Operand.tmp 34], argTypes := #[31] }, type := 4, pos := "laws.go:102", after := #[{ on := 12, ground := Ground.data }, { on := 7, ground := Ground.chain }, { on := 7, ground := Ground.guard }], guard := some (7, false) }) (v := undef) rfl (by kernel_rfl) (by kernel_rfl) (by kernel_rfl) (fun _ _ _ h => h) (Or.inr ⟨by rfl, rfl⟩) hH0h.out ?_
          simp only [Act.put, List.setIfInBounds_toArray, List.set_cons_zero, List.set_cons_succ]
          refine wpAnyH_take (i := 14) (oi := { dst := some 36, op := Op.pick (Operand.tmp 29) (Operand.const (Value.bool true)) (Operand.tmp 35), type := 4, pos := "laws.go:102", after := #[{ on := 7, ground := Ground.data }, { on := 13, ground := Ground.data }], guard := none }) (v := ?v232) rfl (by kernel_rfl) (by kernel_rfl) (by kernel_rfl) (fun _ _ _ h => h) (Or.inl ⟨by rfl, ?hy232⟩) hH0h.out ?rest232
          case hy232 => (intro w9 hS9; go_simp; (try with_reducible rfl))
          simp only [Act.put, List.setIfInBounds_toArray, List.set_cons_zero, List.set_cons_succ]
          refine wpAnyH_take (i := 15) (oi := { dst := some 37, op := Op.move (Operand.tmp 36), type := 4, pos := "laws.go:102", after := #[{ on := 14, ground := Ground.data }, { on := 13, ground := Ground.chain }], guard := none }) (v := ?v233) rfl (by kernel_rfl) (by kernel_rfl) (by kernel_rfl) (fun _ _ _ h => h) (Or.inl ⟨by rfl, ?hy233⟩) hH0h.out ?rest233
          case hy233 => (intro w9 hS9; go_simp; (try with_reducible rfl))
          simp only [Act.put, List.setIfInBounds_toArray, List.set_cons_zero, List.set_cons_succ]
          refine wpAnyH_take (i := 17) (oi := { dst := some 39, op := Op.move (Operand.tmp 3), type := 31, pos := "laws.go:102", after := #[{ on := 15, ground := Ground.guard }], guard := some (15, true) }) (v := ?v234) rfl (by kernel_rfl) (by kernel_rfl) (by kernel_rfl) (fun _ _ _ h => h) (Or.inl ⟨by rfl, ?hy234⟩) hH0h.out ?rest234
          case hy234 => (intro w9 hS9; go_simp; (try with_reducible rfl))
          simp only [Act.put, List.setIfInBounds_toArray, List.set_cons_zero, List.set_cons_succ]
          refine wpAnyH_take (i := 19) (oi := { dst := some 41, op := Op.load 38 (Operand.tmp 5), type := 38, pos := "laws.go:102", after := #[{ on := 15, ground := Ground.guard }], guard := some (15, true) }) (v := ?v235) rfl (by kernel_rfl) (by kernel_rfl) (by kernel_rfl) (fun _ _ _ h => h) (Or.inl ⟨by rfl, ?hy235⟩) hH0h.out ?rest235
          case hy235 => (intro w9 hS9; have hc90 := (Below.cell (show Below w4.heap.size w4 w9 from hS9) hXl).trans hx0; have hc91 := (Below.cell (show Below w4.heap.size w4 w9 from hS9) hXl).trans hx1; have hc92 := (Below.cell (show Below w4.heap.size w4 w9 from hS9) hXl).trans hx2; go_simp; (try with_reducible rfl))
          simp only [Act.put, List.setIfInBounds_toArray, List.set_cons_zero, List.set_cons_succ]
          refine wpAnyH_ready (rs := [16, 20]) (by kernel_rfl) (by simp) ?_
          refine AllReadyH.cons (o := { dst := some 38, op := Op.buildSlice 31 0 #[], type := 31, pos := "laws.go:102", after := #[{ on := 15, ground := Ground.guard }], guard := some (15, true) }) rfl (fun K hK => ?_) (AllReadyH.cons (o := { dst := some 42, op := Op.buildSlice 31 1 #[(0, Operand.tmp 41)], type := 31, pos := "laws.go:102", after := #[{ on := 19, ground := Ground.data }, { on := 15, ground := Ground.guard }], guard := some (15, true) }) rfl (fun K hK => ?_) (AllReadyH.nil))
          ·
            go_simp
            have HO10 : Hid (ItemSl (w5.alloc (.cells #[] 38)) w5.heap.size (.slice (some ⟨w5.heap.size, 0, none⟩) 0 0) []) := hide ⟨[], by exact World.ownsRow_lit w5 #[] 0 (by first | exact Nat.le_refl _ | (simp; done) | (simp <;> omega)) (by unfold maxLen; omega) rfl, fun i x hx => by simp at hx⟩
            refine hK.out _ _ (Below.alloc hH0h.out (Below.size hH0h.out) _) (fun hH16 => ?_)
            clear hK K
            try simp only [Act.put, List.setIfInBounds_toArray, List.set_cons_zero, List.set_cons_succ]
            have hH16h := hide (show Below w4.heap.size w4 _ from hH16)
            clear hH16
            refine wpAnyH_ready (rs := [18, 20]) (by kernel_rfl) (by simp) ?_
            refine AllReadyH.cons (o := { dst := some 40, op := Op.call { callee := Callee.builtin Builtin.append, args := #[Operand.tmp 38, Operand.tmp 39], argTypes := #[31, 31] }, type := 31, pos := "laws.go:102", after := #[{ on := 16, ground := Ground.data }, { on := 17, ground := Ground.data }, { on := 15, ground := Ground.chain }, { on := 15, ground := Ground.guard }], guard := some (15, true) }) rfl (fun K hK => ?_) (AllReadyH.cons (o := { dst := some 42, op := Op.buildSlice 31 1 #[(0, Operand.tmp 41)], type := 31, pos := "laws.go:102", after := #[{ on := 19, ground := Ground.data }, { on := 15, ground := Ground.guard }], guard := some (15, true) }) rfl (fun K hK => ?_) (AllReadyH.nil))
            ·
              refine step_copy_item (by rfl) _ _ (by rfl) w5.heap.size (.slice (some ⟨w5.heap.size, 0, none⟩) 0 0) (by rfl) HO10.out (by simp) g c1 lo l (by rfl) (HS4.out.belowC hH16h.out) (by omega) (by first | exact Nat.le_refl _ | (simp; done) | (simp <;> omega)) ?_
              intro g12 cap12 w12 hown12 hgrow12
              have HLW := hide (fun (k : Nat) (hk : ((.slice (some ⟨w5.heap.size, 0, none⟩) 0 0) : Value).ownBlock = some k) => (by have := ItemSl.own_lt HO10.out k hk; exact this))
              have HS12 : Hid (Below w4.heap.size w4 w12) := hide (Below.grown hH16h.out hgrow12 (Below.size hH16h.out) (fun k hk => Nat.le_trans hz5 (HLW.out k hk).1))
              have HZ12 : w5.heap.size ≤ w12.heap.size := Nat.le_trans (by first | exact Nat.le_refl _ | (simp; done) | (simp <;> omega)) hgrow12.size
              have HO12 : Hid (ItemSl w12 w5.heap.size (.slice (some ⟨g12, 0, none⟩) l.length cap12) l) := hide hown12
              clear hown12 hgrow12 HLW
              refine hK.out _ _ HS12.out (fun hH18 => ?_)
              clear hK K
              try simp only [Act.put, List.setIfInBounds_toArray, List.set_cons_zero, List.set_cons_succ]
              have hH18h := hide (show Below w4.heap.size w4 _ from hH18)
              clear hH18
              refine wpAnyH_ready (rs := [20]) (by kernel_rfl) (by simp) ?_
              refine AllReadyH.cons (o := { dst := some 42, op := Op.buildSlice 31 1 #[(0, Operand.tmp 41)], type := 31, pos := "laws.go:102", after := #[{ on := 19, ground := Ground.data }, { on := 15, ground := Ground.guard }], guard := some (15, true) }) rfl (fun K hK => ?_) (AllReadyH.nil)
              go_simp
              have HO16 := hide (ItemSl.alloc HO12.out (.cells #[.int .i64 1, .slice (some ⟨w3.heap.size, 0, none⟩) 1 1, .int .i64 0] 38))
              have HG16 : Hid ((w12.alloc (.cells #[.int .i64 1, .slice (some ⟨w3.heap.size, 0, none⟩) 1 1, .int .i64 0] 38)).heap[w12.heap.size]? = some (.cells #[.int .i64 1, .slice (some ⟨w3.heap.size, 0, none⟩) 1 1, .int .i64 0] 38)) := hide (by exact heap_alloc_new w12 _)
              refine hK.out _ _ (Below.alloc hH18h.out (Below.size hH18h.out) _) (fun hH20 => ?_)
              clear hK K
              try simp only [Act.put, List.setIfInBounds_toArray, List.set_cons_zero, List.set_cons_succ]
              have hH20h := hide (show Below w4.heap.size w4 _ from hH20)
              clear hH20
              refine wpAnyH_ready (rs := [21]) (by kernel_rfl) (by simp) ?_
              refine AllReadyH.cons (o := { dst := some 43, op := Op.call { callee := Callee.builtin Builtin.append, args := #[Operand.tmp 40, Operand.tmp 42], argTypes := #[31, 31] }, type := 31, pos := "laws.go:102", after := #[{ on := 18, ground := Ground.data }, { on := 20, ground := Ground.data }, { on := 18, ground := Ground.chain }, { on := 15, ground := Ground.guard }], guard := some (15, true) }) rfl (fun K hK => ?_) (AllReadyH.nil)
              refine step_push_item (by rfl) _ _ (by rfl) w5.heap.size (.slice (some ⟨g12, 0, none⟩) l.length cap12) l (by rfl) HO16.out (w12.heap.size) ⟨1, [⟨(l : List Item).length, 1⟩], 0⟩ (some ⟨w3.heap.size, 0, none⟩) 1 (by rfl) HG16.out (parts_lit ((Below.block hH20h.out _ hPl).trans HPT.out)).1 (parts_lit ((Below.block hH20h.out _ hPl).trans HPT.out)).2 (by first | omega | simp) (by first | exact HZ12 | (simp <;> omega)) ?_
              intro g17 cap17 w17 hown17 hgrow17
              have HS17 : Hid (Below w4.heap.size w4 w17) := hide (Below.grown hH20h.out hgrow17 (Below.size hH20h.out) (fun k hk => Nat.le_trans hz5 (ItemSl.own_lt HO16.out k hk).1))
              have HO17 := hide hown17
              clear hown17 hgrow17
              refine hK.out _ _ HS17.out (fun hH21 => ?_)
              clear hK K
              try simp only [Act.put, List.setIfInBounds_toArray, List.set_cons_zero, List.set_cons_succ]
              have hH21h := hide (show Below w4.heap.size w4 _ from hH21)
              clear hH21
              refine wpAnyH_ready (rs := [22]) (by kernel_rfl) (by simp) ?_
              refine AllReadyH.cons (o := { dst := some 44, op := Op.call { callee := Callee.value (Operand.func 10), args := #[Operand.tmp 43], argTypes := #[31] }, type := 4, pos := "laws.go:102", after := #[{ on := 21, ground := Ground.data }, { on := 21, ground := Ground.chain }, { on := 15, ground := Ground.guard }], guard := some (15, true) }) rfl (fun K hK => ?_) (AllReadyH.nil)
              go_simp
              go_at_call 10
              refine (implItemsValid_at _ _ _ _ _ _ (by simp) HWR HO17.out.itemsAt (by first | omega | simp) HPW.out).mono ?_
              rintro e w19 ⟨rfl, hB19⟩
              have HS19 := hide (next hH21h.out hB19)
              clear hB19
              go_wp2_with fail
              refine hK.out _ _ HS19.out (fun hH22 => ?_)
              clear hK K
              try simp only [Act.put, List.setIfInBounds_toArray, List.set_cons_zero, List.set_cons_succ]
              have hH22h := hide (show Below w4.heap.size w4 _ from hH22)
              clear hH22
              refine wpAnyH_take (i := 23) (oi := { dst := some 45, op := Op.unOp UnOp.not 4 (Operand.tmp 44), type := 4, pos := "laws.go:102", after := #[{ on := 22, ground := Ground.data }, { on := 15, ground := Ground.guard }], guard := some (15, true) }) (v := ?v236) rfl (by kernel_rfl) (by kernel_rfl) (by kernel_rfl) (fun _ _ _ h => h) (Or.inl ⟨by rfl, ?hy236⟩) hH22h.out ?rest236
              case hy236 => (intro w9 hS9; go_simp; (try with_reducible rfl))
              simp only [Act.put, List.setIfInBounds_toArray, List.set_cons_zero, List.set_cons_succ]
              refine wpAnyH_take (i := 24) (oi := { dst := some 46, op := Op.pick (Operand.tmp 37) (Operand.tmp 45) (Operand.const (Value.bool false)), type := 4, pos := "laws.go:102", after := #[{ on := 15, ground := Ground.data }, { on := 23, ground := Ground.data }], guard := none }) (v := ?v237) rfl (by kernel_rfl) (by kernel_rfl) (by kernel_rfl) (fun _ _ _ h => h) (Or.inl ⟨by rfl, ?hy237⟩) hH22h.out ?rest237
              case hy237 => (intro w9 hS9; go_simp; (try with_reducible rfl))
              simp only [Act.put, List.setIfInBounds_toArray, List.set_cons_zero, List.set_cons_succ]
              refine wpAnyH_take (i := 25) (oi := { dst := some 47, op := Op.move (Operand.tmp 46), type := 4, pos := "laws.go:102", after := #[{ on := 24, ground := Ground.data }, { on := 22, ground := Ground.chain }], guard := none }) (v := ?v238) rfl (by kernel_rfl) (by kernel_rfl) (by kernel_rfl) (fun _ _ _ h => h) (Or.inl ⟨by rfl, ?hy238⟩) hH22h.out ?rest238
              case hy238 => (intro w9 hS9; go_simp; (try with_reducible rfl))
              simp only [Act.put, List.setIfInBounds_toArray, List.set_cons_zero, List.set_cons_succ]
              refine wpAnyH_ready (rs := [26]) (by kernel_rfl) (by simp) ?_
              refine AllReadyH.cons (o := { dst := some 48, op := Op.call { callee := Callee.value (Operand.func 10), args := #[Operand.const (Value.slice none 0 0)], argTypes := #[31] }, type := 4, pos := "laws.go:102", after := #[{ on := 25, ground := Ground.chain }, { on := 25, ground := Ground.guard }], guard := some (25, true) }) rfl (fun K hK => ?_) (AllReadyH.nil)
              go_simp
              go_at_call 10
              refine (implItemsValid_at none 0 0 [] true _ rfl (hide rfl) (fun i x hx => by simp at hx) (by omega) (fun x hx => by simp at hx)).mono ?_
              rintro e w20 ⟨rfl, hB20⟩
              have HS20 := hide (next hH22h.out hB20)
              clear hB20
              go_wp2_with fail
              refine hK.out _ _ HS20.out (fun hH26 => ?_)
              clear hK K
              try simp only [Act.put, List.setIfInBounds_toArray, List.set_cons_zero, List.set_cons_succ]
              have hH26h := hide (show Below w4.heap.size w4 _ from hH26)
              clear hH26
              refine wpAnyH_take (i := 27) (oi := { dst := some 49, op := Op.pick (Operand.tmp 47) (Operand.tmp 48) (Operand.const (Value.bool false)), type := 4, pos := "laws.go:102", after := #[{ on := 25, ground := Ground.data }, { on := 26, ground := Ground.data }], guard := none }) (v := ?v239) rfl (by kernel_rfl) (by kernel_rfl) (by kernel_rfl) (fun _ _ _ h => h) (Or.inl ⟨by rfl, ?hy239⟩) hH26h.out ?rest239
              case hy239 => (intro w9 hS9; go_simp; (try with_reducible rfl))
              simp only [Act.put, List.setIfInBounds_toArray, List.set_cons_zero, List.set_cons_succ]
              refine wpAnyH_take (i := 28) (oi := { dst := some 50, op := Op.move (Operand.tmp 49), type := 4, pos := "laws.go:102", after := #[{ on := 27, ground := Ground.data }, { on := 26, ground := Ground.chain }], guard := none }) (v := ?v240) rfl (by kernel_rfl) (by kernel_rfl) (by kernel_rfl) (fun _ _ _ h => h) (Or.inl ⟨by rfl, ?hy240⟩) hH26h.out ?rest240
              case hy240 => (intro w9 hS9; go_simp; (try with_reducible rfl))
              simp only [Act.put, List.setIfInBounds_toArray, List.set_cons_zero, List.set_cons_succ]
              refine wpAnyH_ready (rs := [29]) (by kernel_rfl) (by simp) ?_
              refine AllReadyH.cons (o := { dst := some 51, op := Op.call { callee := Callee.value (Operand.func 8), args := #[], argTypes := #[] }, type := 4, pos := "laws.go:102", after := #[{ on := 28, ground := Ground.chain }, { on := 28, ground := Ground.guard }], guard := some (28, true) }) rfl (fun K hK => ?_) (AllReadyH.nil)
              go_simp
              go_at_call 8
              refine (alive_any _).mono ?_
              rintro e w6 ⟨rfl, hB6⟩
              have HB6 := hide (next hH26h.out hB6)
              clear hB6
              go_wp2_with fail
              refine hK.out _ _ HB6.out (fun hH29 => ?_)
              clear hK K
              try simp only [Act.put, List.setIfInBounds_toArray, List.set_cons_zero, List.set_cons_succ]
              have hH29h := hide (show Below w4.heap.size w4 _ from hH29)
              clear hH29
              refine wpAnyH_take (i := 30) (oi := { dst := some 52, op := Op.pick (Operand.tmp 50) (Operand.tmp 51) (Operand.const (Value.bool false)), type := 4, pos := "laws.go:102", after := #[{ on := 28, ground := Ground.data }, { on := 29, ground := Ground.data }], guard := none }) (v := ?v241) rfl (by kernel_rfl) (by kernel_rfl) (by kernel_rfl) (fun _ _ _ h => h) (Or.inl ⟨by rfl, ?hy241⟩) hH29h.out ?rest241
              case hy241 => (intro w9 hS9; go_simp; (try with_reducible rfl))
              simp only [Act.put, List.setIfInBounds_toArray, List.set_cons_zero, List.set_cons_succ]
              refine wpAnyH_take (i := 31) (oi := { dst := some 2, op := Op.assign (Operand.tmp 52), type := 4, pos := "laws.go:102", after := #[{ on := 30, ground := Ground.data }, { on := 29, ground := Ground.chain }, { on := 0, ground := Ground.phase }, { on := 1, ground := Ground.phase }, { on := 2, ground := Ground.phase }, { on := 3, ground := Ground.phase }, { on := 4, ground := Ground.phase }, { on := 5, ground := Ground.phase }, { on := 6, ground := Ground.phase }, { on := 7, ground := Ground.phase }, { on := 8, ground := Ground.phase }, { on := 9, ground := Ground.phase }, { on := 10, ground := Ground.phase }, { on := 11, ground := Ground.phase }, { on := 12, ground := Ground.phase }, { on := 13, ground := Ground.phase }, { on := 14, ground := Ground.phase }, { on := 15, ground := Ground.phase }, { on := 16, ground := Ground.phase }, { on := 17, ground := Ground.phase }, { on := 18, ground := Ground.phase }, { on := 19, ground := Ground.phase }, { on := 20, ground := Ground.phase }, { on := 21, ground := Ground.phase }, { on := 22, ground := Ground.phase }, { on := 23, ground := Ground.phase }, { on := 24, ground := Ground.phase }, { on := 25, ground := Ground.phase }, { on := 26, ground := Ground.phase }, { on := 27, ground := Ground.phase }, { on := 28, ground := Ground.phase }, { on := 29, ground := Ground.phase }, { on := 30, ground := Ground.phase }], guard := none }) (v := ?v242) rfl (by kernel_rfl) (by kernel_rfl) (by kernel_rfl) (fun _ _ _ h => h) (Or.inl ⟨by rfl, ?hy242⟩) hH29h.out ?rest242
              case hy242 => (intro w9 hS9; go_simp; (try with_reducible rfl))
              simp only [Act.put, List.setIfInBounds_toArray, List.set_cons_zero, List.set_cons_succ]
              refine wpAnyH_done (by kernel_rfl) ?_ _
              refine NoPanic.normal ?_
              go_wp2_with fail
              go_ret
              exact ⟨rfl, next hb4 HB6.out⟩
            ·
              go_simp
              have HO16 := hide (ItemSl.alloc HO10.out (.cells #[.int .i64 1, .slice (some ⟨w3.heap.size, 0, none⟩) 1 1, .int .i64 0] 38))
              have HG16 : Hid (((w5.alloc (.cells #[] 38)).alloc (.cells #[.int .i64 1, .slice (some ⟨w3.heap.size, 0, none⟩) 1 1, .int .i64 0] 38)).heap[(w5.heap.size + 1)]? = some (.cells #[.int .i64 1, .slice (some ⟨w3.heap.size, 0, none⟩) 1 1, .int .i64 0] 38)) := hide (by rw [show w5.heap.size + 1 = (w5.alloc (.cells #[] 38)).heap.size by simp]; exact heap_alloc_new (w5.alloc (.cells #[] 38)) _)
              refine hK.out _ _ (Below.alloc hH16h.out (Below.size hH16h.out) _) (fun hH20 => ?_)
              clear hK K
              try simp only [Act.put, List.setIfInBounds_toArray, List.set_cons_zero, List.set_cons_succ]
              have hH20h := hide (show Below w4.heap.size w4 _ from hH20)
              clear hH20
              refine wpAnyH_ready (rs := [18]) (by kernel_rfl) (by simp) ?_
              refine AllReadyH.cons (o := { dst := some 40, op := Op.call { callee := Callee.builtin Builtin.append, args := #[Operand.tmp 38, Operand.tmp 39], argTypes := #[31, 31] }, type := 31, pos := "laws.go:102", after := #[{ on := 16, ground := Ground.data }, { on := 17, ground := Ground.data }, { on := 15, ground := Ground.chain }, { on := 15, ground := Ground.guard }], guard := some (15, true) }) rfl (fun K hK => ?_) (AllReadyH.nil)
              refine step_copy_item (by rfl) _ _ (by rfl) w5.heap.size (.slice (some ⟨w5.heap.size, 0, none⟩) 0 0) (by rfl) HO16.out (by simp) g c1 lo l (by rfl) (HS4.out.belowC hH20h.out) (by omega) (by first | exact Nat.le_refl _ | (simp; done) | (simp <;> omega)) ?_
              intro g12 cap12 w12 hown12 hgrow12
              have HLW := hide (fun (k : Nat) (hk : ((.slice (some ⟨w5.heap.size, 0, none⟩) 0 0) : Value).ownBlock = some k) => (by have := ItemSl.own_lt HO16.out k hk; exact this))
              have HS12 : Hid (Below w4.heap.size w4 w12) := hide (Below.grown hH20h.out hgrow12 (Below.size hH20h.out) (fun k hk => Nat.le_trans hz5 (HLW.out k hk).1))
              have HZ12 : w5.heap.size ≤ w12.heap.size := Nat.le_trans (by first | exact Nat.le_refl _ | (simp; done) | (simp <;> omega)) hgrow12.size
              have HG12 : Hid (w12.heap[(w5.heap.size + 1)]? = some (.cells #[.int .i64 1, .slice (some ⟨w3.heap.size, 0, none⟩) 1 1, .int .i64 0] 38)) := hide ((hgrow12.block _ (by first | (simp; done) | (simp; omega)) (fun e => by have e : some ((w5.heap.size + 1)) = some (w5.heap.size) := e; injection e with e; simp at e)).trans HG16.out)
              have HO12 : Hid (ItemSl w12 w5.heap.size (.slice (some ⟨g12, 0, none⟩) l.length cap12) l) := hide hown12
              clear hown12 hgrow12 HLW
              refine hK.out _ _ HS12.out (fun hH18 => ?_)
              clear hK K
              try simp only [Act.put, List.setIfInBounds_toArray, List.set_cons_zero, List.set_cons_succ]
              have hH18h := hide (show Below w4.heap.size w4 _ from hH18)
              clear hH18
              refine wpAnyH_ready (rs := [21]) (by kernel_rfl) (by simp) ?_
              refine AllReadyH.cons (o := { dst := some 43, op := Op.call { callee := Callee.builtin Builtin.append, args := #[Operand.tmp 40, Operand.tmp 42], argTypes := #[31, 31] }, type := 31, pos := "laws.go:102", after := #[{ on := 18, ground := Ground.data }, { on := 20, ground := Ground.data }, { on := 18, ground := Ground.chain }, { on := 15, ground := Ground.guard }], guard := some (15, true) }) rfl (fun K hK => ?_) (AllReadyH.nil)
              refine step_push_item (by rfl) _ _ (by rfl) w5.heap.size (.slice (some ⟨g12, 0, none⟩) l.length cap12) l (by rfl) HO12.out ((w5.heap.size + 1)) ⟨1, [⟨(l : List Item).length, 1⟩], 0⟩ (some ⟨w3.heap.size, 0, none⟩) 1 (by rfl) HG12.out (parts_lit ((Below.block hH18h.out _ hPl).trans HPT.out)).1 (parts_lit ((Below.block hH18h.out _ hPl).trans HPT.out)).2 (by first | omega | simp) (by first | exact HZ12 | (simp <;> omega)) ?_
              intro g17 cap17 w17 hown17 hgrow17
              have HS17 : Hid (Below w4.heap.size w4 w17) := hide (Below.grown hH18h.out hgrow17 (Below.size hH18h.out) (fun k hk => Nat.le_trans hz5 (ItemSl.own_lt HO12.out k hk).1))
              have HO17 := hide hown17
              clear hown17 hgrow17
              refine hK.out _ _ HS17.out (fun hH21 => ?_)
              clear hK K
              try simp only [Act.put, List.setIfInBounds_toArray, List.set_cons_zero, List.set_cons_succ]
              have hH21h := hide (show Below w4.heap.size w4 _ from hH21)
              clear hH21
              refine wpAnyH_ready (rs := [22]) (by kernel_rfl) (by simp) ?_
              refine AllReadyH.cons (o := { dst := some 44, op := Op.call { callee := Callee.value (Operand.func 10), args := #[Operand.tmp 43], argTypes := #[31] }, type := 4, pos := "laws.go:102", after := #[{ on := 21, ground := Ground.data }, { on := 21, ground := Ground.chain }, { on := 15, ground := Ground.guard }], guard := some (15, true) }) rfl (fun K hK => ?_) (AllReadyH.nil)
              go_simp
              go_at_call 10
              refine (implItemsValid_at _ _ _ _ _ _ (by simp) HWR HO17.out.itemsAt (by first | omega | simp) HPW.out).mono ?_
              rintro e w19 ⟨rfl, hB19⟩
              have HS19 := hide (next hH21h.out hB19)
              clear hB19
              go_wp2_with fail
              refine hK.out _ _ HS19.out (fun hH22 => ?_)
              clear hK K
              try simp only [Act.put, List.setIfInBounds_toArray, List.set_cons_zero, List.set_cons_succ]
              have hH22h := hide (show Below w4.heap.size w4 _ from hH22)
              clear hH22
              refine wpAnyH_take (i := 23) (oi := { dst := some 45, op := Op.unOp UnOp.not 4 (Operand.tmp 44), type := 4, pos := "laws.go:102", after := #[{ on := 22, ground := Ground.data }, { on := 15, ground := Ground.guard }], guard := some (15, true) }) (v := ?v243) rfl (by kernel_rfl) (by kernel_rfl) (by kernel_rfl) (fun _ _ _ h => h) (Or.inl ⟨by rfl, ?hy243⟩) hH22h.out ?rest243
              case hy243 => (intro w9 hS9; go_simp; (try with_reducible rfl))
              simp only [Act.put, List.setIfInBounds_toArray, List.set_cons_zero, List.set_cons_succ]
              refine wpAnyH_take (i := 24) (oi := { dst := some 46, op := Op.pick (Operand.tmp 37) (Operand.tmp 45) (Operand.const (Value.bool false)), type := 4, pos := "laws.go:102", after := #[{ on := 15, ground := Ground.data }, { on := 23, ground := Ground.data }], guard := none }) (v := ?v244) rfl (by kernel_rfl) (by kernel_rfl) (by kernel_rfl) (fun _ _ _ h => h) (Or.inl ⟨by rfl, ?hy244⟩) hH22h.out ?rest244
              case hy244 => (intro w9 hS9; go_simp; (try with_reducible rfl))
              simp only [Act.put, List.setIfInBounds_toArray, List.set_cons_zero, List.set_cons_succ]
              refine wpAnyH_take (i := 25) (oi := { dst := some 47, op := Op.move (Operand.tmp 46), type := 4, pos := "laws.go:102", after := #[{ on := 24, ground := Ground.data }, { on := 22, ground := Ground.chain }], guard := none }) (v := ?v245) rfl (by kernel_rfl) (by kernel_rfl) (by kernel_rfl) (fun _ _ _ h => h) (Or.inl ⟨by rfl, ?hy245⟩) hH22h.out ?rest245
              case hy245 => (intro w9 hS9; go_simp; (try with_reducible rfl))
              simp only [Act.put, List.setIfInBounds_toArray, List.set_cons_zero, List.set_cons_succ]
              refine wpAnyH_ready (rs := [26]) (by kernel_rfl) (by simp) ?_
              refine AllReadyH.cons (o := { dst := some 48, op := Op.call { callee := Callee.value (Operand.func 10), args := #[Operand.const (Value.slice none 0 0)], argTypes := #[31] }, type := 4, pos := "laws.go:102", after := #[{ on := 25, ground := Ground.chain }, { on := 25, ground := Ground.guard }], guard := some (25, true) }) rfl (fun K hK => ?_) (AllReadyH.nil)
              go_simp
              go_at_call 10
              refine (implItemsValid_at none 0 0 [] true _ rfl (hide rfl) (fun i x hx => by simp at hx) (by omega) (fun x hx => by simp at hx)).mono ?_
              rintro e w20 ⟨rfl, hB20⟩
              have HS20 := hide (next hH22h.out hB20)
              clear hB20
              go_wp2_with fail
              refine hK.out _ _ HS20.out (fun hH26 => ?_)
              clear hK K
              try simp only [Act.put, List.setIfInBounds_toArray, List.set_cons_zero, List.set_cons_succ]
              have hH26h := hide (show Below w4.heap.size w4 _ from hH26)
              clear hH26
              refine wpAnyH_take (i := 27) (oi := { dst := some 49, op := Op.pick (Operand.tmp 47) (Operand.tmp 48) (Operand.const (Value.bool false)), type := 4, pos := "laws.go:102", after := #[{ on := 25, ground := Ground.data }, { on := 26, ground := Ground.data }], guard := none }) (v := ?v246) rfl (by kernel_rfl) (by kernel_rfl) (by kernel_rfl) (fun _ _ _ h => h) (Or.inl ⟨by rfl, ?hy246⟩) hH26h.out ?rest246
              case hy246 => (intro w9 hS9; go_simp; (try with_reducible rfl))
              simp only [Act.put, List.setIfInBounds_toArray, List.set_cons_zero, List.set_cons_succ]
              refine wpAnyH_take (i := 28) (oi := { dst := some 50, op := Op.move (Operand.tmp 49), type := 4, pos := "laws.go:102", after := #[{ on := 27, ground := Ground.data }, { on := 26, ground := Ground.chain }], guard := none }) (v := ?v247) rfl (by kernel_rfl) (by kernel_rfl) (by kernel_rfl) (fun _ _ _ h => h) (Or.inl ⟨by rfl, ?hy247⟩) hH26h.out ?rest247
              case hy247 => (intro w9 hS9; go_simp; (try with_reducible rfl))
              simp only [Act.put, List.setIfInBounds_toArray, List.set_cons_zero, List.set_cons_succ]
              refine wpAnyH_ready (rs := [29]) (by kernel_rfl) (by simp) ?_
              refine AllReadyH.cons (o := { dst := some 51, op := Op.call { callee := Callee.value (Operand.func 8), args := #[], argTypes := #[] }, type := 4, pos := "laws.go:102", after := #[{ on := 28, ground := Ground.chain }, { on := 28, ground := Ground.guard }], guard := some (28, true) }) rfl (fun K hK => ?_) (AllReadyH.nil)
              go_simp
              go_at_call 8
              refine (alive_any _).mono ?_
              rintro e w6 ⟨rfl, hB6⟩
              have HB6 := hide (next hH26h.out hB6)
              clear hB6
              go_wp2_with fail
              refine hK.out _ _ HB6.out (fun hH29 => ?_)
              clear hK K
              try simp only [Act.put, List.setIfInBounds_toArray, List.set_cons_zero, List.set_cons_succ]
              have hH29h := hide (show Below w4.heap.size w4 _ from hH29)
              clear hH29
              refine wpAnyH_take (i := 30) (oi := { dst := some 52, op := Op.pick (Operand.tmp 50) (Operand.tmp 51) (Operand.const (Value.bool false)), type := 4, pos := "laws.go:102", after := #[{ on := 28, ground := Ground.data }, { on := 29, ground := Ground.data }], guard := none }) (v := ?v248) rfl (by kernel_rfl) (by kernel_rfl) (by kernel_rfl) (fun _ _ _ h => h) (Or.inl ⟨by rfl, ?hy248⟩) hH29h.out ?rest248
              case hy248 => (intro w9 hS9; go_simp; (try with_reducible rfl))
              simp only [Act.put, List.setIfInBounds_toArray, List.set_cons_zero, List.set_cons_succ]
              refine wpAnyH_take (i := 31) (oi := { dst := some 2, op := Op.assign (Operand.tmp 52), type := 4, pos := "laws.go:102", after := #[{ on := 30, ground := Ground.data }, { on := 29, ground := Ground.chain }, { on := 0, ground := Ground.phase }, { on := 1, ground := Ground.phase }, { on := 2, ground := Ground.phase }, { on := 3, ground := Ground.phase }, { on := 4, ground := Ground.phase }, { on := 5, ground := Ground.phase }, { on := 6, ground := Ground.phase }, { on := 7, ground := Ground.phase }, { on := 8, ground := Ground.phase }, { on := 9, ground := Ground.phase }, { on := 10, ground := Ground.phase }, { on := 11, ground := Ground.phase }, { on := 12, ground := Ground.phase }, { on := 13, ground := Ground.phase }, { on := 14, ground := Ground.phase }, { on := 15, ground := Ground.phase }, { on := 16, ground := Ground.phase }, { on := 17, ground := Ground.phase }, { on := 18, ground := Ground.phase }, { on := 19, ground := Ground.phase }, { on := 20, ground := Ground.phase }, { on := 21, ground := Ground.phase }, { on := 22, ground := Ground.phase }, { on := 23, ground := Ground.phase }, { on := 24, ground := Ground.phase }, { on := 25, ground := Ground.phase }, { on := 26, ground := Ground.phase }, { on := 27, ground := Ground.phase }, { on := 28, ground := Ground.phase }, { on := 29, ground := Ground.phase }, { on := 30, ground := Ground.phase }], guard := none }) (v := ?v249) rfl (by kernel_rfl) (by kernel_rfl) (by kernel_rfl) (fun _ _ _ h => h) (Or.inl ⟨by rfl, ?hy249⟩) hH29h.out ?rest249
              case hy249 => (intro w9 hS9; go_simp; (try with_reducible rfl))
              simp only [Act.put, List.setIfInBounds_toArray, List.set_cons_zero, List.set_cons_succ]
              refine wpAnyH_done (by kernel_rfl) ?_ _
              refine NoPanic.normal ?_
              go_wp2_with fail
              go_ret
              exact ⟨rfl, next hb4 HB6.out⟩
          ·
            go_simp
            have HG16 : Hid ((w5.alloc (.cells #[.int .i64 1, .slice (some ⟨w3.heap.size, 0, none⟩) 1 1, .int .i64 0] 38)).heap[w5.heap.size]? = some (.cells #[.int .i64 1, .slice (some ⟨w3.heap.size, 0, none⟩) 1 1, .int .i64 0] 38)) := hide (by exact heap_alloc_new w5 _)
            refine hK.out _ _ (Below.alloc hH0h.out (Below.size hH0h.out) _) (fun hH20 => ?_)
            clear hK K
            try simp only [Act.put, List.setIfInBounds_toArray, List.set_cons_zero, List.set_cons_succ]
            have hH20h := hide (show Below w4.heap.size w4 _ from hH20)
            clear hH20
            refine wpAnyH_ready (rs := [16]) (by kernel_rfl) (by simp) ?_
            refine AllReadyH.cons (o := { dst := some 38, op := Op.buildSlice 31 0 #[], type := 31, pos := "laws.go:102", after := #[{ on := 15, ground := Ground.guard }], guard := some (15, true) }) rfl (fun K hK => ?_) (AllReadyH.nil)
            go_simp
            have HO10 : Hid (ItemSl ((w5.alloc (.cells #[.int .i64 1, .slice (some ⟨w3.heap.size, 0, none⟩) 1 1, .int .i64 0] 38)).alloc (.cells #[] 38)) w5.heap.size (.slice (some ⟨(w5.heap.size + 1), 0, none⟩) 0 0) []) := hide ⟨[], by rw [show w5.heap.size + 1 = (w5.alloc (.cells #[.int .i64 1, .slice (some ⟨w3.heap.size, 0, none⟩) 1 1, .int .i64 0] 38)).heap.size by simp]; exact World.ownsRow_lit (w5.alloc (.cells #[.int .i64 1, .slice (some ⟨w3.heap.size, 0, none⟩) 1 1, .int .i64 0] 38)) #[] 0 (by first | exact Nat.le_refl _ | (simp; done) | (simp <;> omega)) (by unfold maxLen; omega) rfl, fun i x hx => by simp at hx⟩
            have HG10 : Hid (((w5.alloc (.cells #[.int .i64 1, .slice (some ⟨w3.heap.size, 0, none⟩) 1 1, .int .i64 0] 38)).alloc (.cells #[] 38)).heap[w5.heap.size]? = some (.cells #[.int .i64 1, .slice (some ⟨w3.heap.size, 0, none⟩) 1 1, .int .i64 0] 38)) := hide (((World.grownBy_alloc (w5.alloc (.cells #[.int .i64 1, .slice (some ⟨w3.heap.size, 0, none⟩) 1 1, .int .i64 0] 38)) _ none).block _ (by simp) (by simp)).trans HG16.out)
            refine hK.out _ _ (Below.alloc hH20h.out (Below.size hH20h.out) _) (fun hH16 => ?_)
            clear hK K
            try simp only [Act.put, List.setIfInBounds_toArray, List.set_cons_zero, List.set_cons_succ]
            have hH16h := hide (show Below w4.heap.size w4 _ from hH16)
            clear hH16
            refine wpAnyH_ready (rs := [18]) (by kernel_rfl) (by simp) ?_
            refine AllReadyH.cons (o := { dst := some 40, op := Op.call { callee := Callee.builtin Builtin.append, args := #[Operand.tmp 38, Operand.tmp 39], argTypes := #[31, 31] }, type := 31, pos := "laws.go:102", after := #[{ on := 16, ground := Ground.data }, { on := 17, ground := Ground.data }, { on := 15, ground := Ground.chain }, { on := 15, ground := Ground.guard }], guard := some (15, true) }) rfl (fun K hK => ?_) (AllReadyH.nil)
            refine step_copy_item (by rfl) _ _ (by rfl) w5.heap.size (.slice (some ⟨(w5.heap.size + 1), 0, none⟩) 0 0) (by rfl) HO10.out (by simp) g c1 lo l (by rfl) (HS4.out.belowC hH16h.out) (by omega) (by first | exact Nat.le_refl _ | (simp; done) | (simp <;> omega)) ?_
            intro g12 cap12 w12 hown12 hgrow12
            have HLW := hide (fun (k : Nat) (hk : ((.slice (some ⟨(w5.heap.size + 1), 0, none⟩) 0 0) : Value).ownBlock = some k) => (by have := ItemSl.own_lt HO10.out k hk; exact this))
            have HS12 : Hid (Below w4.heap.size w4 w12) := hide (Below.grown hH16h.out hgrow12 (Below.size hH16h.out) (fun k hk => Nat.le_trans hz5 (HLW.out k hk).1))
            have HZ12 : w5.heap.size ≤ w12.heap.size := Nat.le_trans (by first | exact Nat.le_refl _ | (simp; done) | (simp <;> omega)) hgrow12.size
            have HG12 : Hid (w12.heap[w5.heap.size]? = some (.cells #[.int .i64 1, .slice (some ⟨w3.heap.size, 0, none⟩) 1 1, .int .i64 0] 38)) := hide ((hgrow12.block _ (by first | (simp; done) | (simp; omega)) (fun e => by have e : some (w5.heap.size) = some ((w5.heap.size + 1)) := e; injection e with e; simp at e)).trans HG10.out)
            have HO12 : Hid (ItemSl w12 w5.heap.size (.slice (some ⟨g12, 0, none⟩) l.length cap12) l) := hide hown12
            clear hown12 hgrow12 HLW
            refine hK.out _ _ HS12.out (fun hH18 => ?_)
            clear hK K
            try simp only [Act.put, List.setIfInBounds_toArray, List.set_cons_zero, List.set_cons_succ]
            have hH18h := hide (show Below w4.heap.size w4 _ from hH18)
            clear hH18
            refine wpAnyH_ready (rs := [21]) (by kernel_rfl) (by simp) ?_
            refine AllReadyH.cons (o := { dst := some 43, op := Op.call { callee := Callee.builtin Builtin.append, args := #[Operand.tmp 40, Operand.tmp 42], argTypes := #[31, 31] }, type := 31, pos := "laws.go:102", after := #[{ on := 18, ground := Ground.data }, { on := 20, ground := Ground.data }, { on := 18, ground := Ground.chain }, { on := 15, ground := Ground.guard }], guard := some (15, true) }) rfl (fun K hK => ?_) (AllReadyH.nil)
            refine step_push_item (by rfl) _ _ (by rfl) w5.heap.size (.slice (some ⟨g12, 0, none⟩) l.length cap12) l (by rfl) HO12.out (w5.heap.size) ⟨1, [⟨(l : List Item).length, 1⟩], 0⟩ (some ⟨w3.heap.size, 0, none⟩) 1 (by rfl) HG12.out (parts_lit ((Below.block hH18h.out _ hPl).trans HPT.out)).1 (parts_lit ((Below.block hH18h.out _ hPl).trans HPT.out)).2 (by first | omega | simp) (by first | exact HZ12 | (simp <;> omega)) ?_
            intro g17 cap17 w17 hown17 hgrow17
            have HS17 : Hid (Below w4.heap.size w4 w17) := hide (Below.grown hH18h.out hgrow17 (Below.size hH18h.out) (fun k hk => Nat.le_trans hz5 (ItemSl.own_lt HO12.out k hk).1))
            have HO17 := hide hown17
            clear hown17 hgrow17
            refine hK.out _ _ HS17.out (fun hH21 => ?_)
            clear hK K
            try simp only [Act.put, List.setIfInBounds_toArray, List.set_cons_zero, List.set_cons_succ]
            have hH21h := hide (show Below w4.heap.size w4 _ from hH21)
            clear hH21
            refine wpAnyH_ready (rs := [22]) (by kernel_rfl) (by simp) ?_
            refine AllReadyH.cons (o := { dst := some 44, op := Op.call { callee := Callee.value (Operand.func 10), args := #[Operand.tmp 43], argTypes := #[31] }, type := 4, pos := "laws.go:102", after := #[{ on := 21, ground := Ground.data }, { on := 21, ground := Ground.chain }, { on := 15, ground := Ground.guard }], guard := some (15, true) }) rfl (fun K hK => ?_) (AllReadyH.nil)
            go_simp
            go_at_call 10
            refine (implItemsValid_at _ _ _ _ _ _ (by simp) HWR HO17.out.itemsAt (by first | omega | simp) HPW.out).mono ?_
            rintro e w19 ⟨rfl, hB19⟩
            have HS19 := hide (next hH21h.out hB19)
            clear hB19
            go_wp2_with fail
            refine hK.out _ _ HS19.out (fun hH22 => ?_)
            clear hK K
            try simp only [Act.put, List.setIfInBounds_toArray, List.set_cons_zero, List.set_cons_succ]
            have hH22h := hide (show Below w4.heap.size w4 _ from hH22)
            clear hH22
            refine wpAnyH_take (i := 23) (oi := { dst := some 45, op := Op.unOp UnOp.not 4 (Operand.tmp 44), type := 4, pos := "laws.go:102", after := #[{ on := 22, ground := Ground.data }, { on := 15, ground := Ground.guard }], guard := some (15, true) }) (v := ?v250) rfl (by kernel_rfl) (by kernel_rfl) (by kernel_rfl) (fun _ _ _ h => h) (Or.inl ⟨by rfl, ?hy250⟩) hH22h.out ?rest250
            case hy250 => (intro w9 hS9; go_simp; (try with_reducible rfl))
            simp only [Act.put, List.setIfInBounds_toArray, List.set_cons_zero, List.set_cons_succ]
            refine wpAnyH_take (i := 24) (oi := { dst := some 46, op := Op.pick (Operand.tmp 37) (Operand.tmp 45) (Operand.const (Value.bool false)), type := 4, pos := "laws.go:102", after := #[{ on := 15, ground := Ground.data }, { on := 23, ground := Ground.data }], guard := none }) (v := ?v251) rfl (by kernel_rfl) (by kernel_rfl) (by kernel_rfl) (fun _ _ _ h => h) (Or.inl ⟨by rfl, ?hy251⟩) hH22h.out ?rest251
            case hy251 => (intro w9 hS9; go_simp; (try with_reducible rfl))
            simp only [Act.put, List.setIfInBounds_toArray, List.set_cons_zero, List.set_cons_succ]
            refine wpAnyH_take (i := 25) (oi := { dst := some 47, op := Op.move (Operand.tmp 46), type := 4, pos := "laws.go:102", after := #[{ on := 24, ground := Ground.data }, { on := 22, ground := Ground.chain }], guard := none }) (v := ?v252) rfl (by kernel_rfl) (by kernel_rfl) (by kernel_rfl) (fun _ _ _ h => h) (Or.inl ⟨by rfl, ?hy252⟩) hH22h.out ?rest252
            case hy252 => (intro w9 hS9; go_simp; (try with_reducible rfl))
            simp only [Act.put, List.setIfInBounds_toArray, List.set_cons_zero, List.set_cons_succ]
            refine wpAnyH_ready (rs := [26]) (by kernel_rfl) (by simp) ?_
            refine AllReadyH.cons (o := { dst := some 48, op := Op.call { callee := Callee.value (Operand.func 10), args := #[Operand.const (Value.slice none 0 0)], argTypes := #[31] }, type := 4, pos := "laws.go:102", after := #[{ on := 25, ground := Ground.chain }, { on := 25, ground := Ground.guard }], guard := some (25, true) }) rfl (fun K hK => ?_) (AllReadyH.nil)
            go_simp
            go_at_call 10
            refine (implItemsValid_at none 0 0 [] true _ rfl (hide rfl) (fun i x hx => by simp at hx) (by omega) (fun x hx => by simp at hx)).mono ?_
            rintro e w20 ⟨rfl, hB20⟩
            have HS20 := hide (next hH22h.out hB20)
            clear hB20
            go_wp2_with fail
            refine hK.out _ _ HS20.out (fun hH26 => ?_)
            clear hK K
            try simp only [Act.put, List.setIfInBounds_toArray, List.set_cons_zero, List.set_cons_succ]
            have hH26h := hide (show Below w4.heap.size w4 _ from hH26)
            clear hH26
            refine wpAnyH_take (i := 27) (oi := { dst := some 49, op := Op.pick (Operand.tmp 47) (Operand.tmp 48) (Operand.const (Value.bool false)), type := 4, pos := "laws.go:102", after := #[{ on := 25, ground := Ground.data }, { on := 26, ground := Ground.data }], guard := none }) (v := ?v253) rfl (by kernel_rfl) (by kernel_rfl) (by kernel_rfl) (fun _ _ _ h => h) (Or.inl ⟨by rfl, ?hy253⟩) hH26h.out ?rest253
            case hy253 => (intro w9 hS9; go_simp; (try with_reducible rfl))
            simp only [Act.put, List.setIfInBounds_toArray, List.set_cons_zero, List.set_cons_succ]
            refine wpAnyH_take (i := 28) (oi := { dst := some 50, op := Op.move (Operand.tmp 49), type := 4, pos := "laws.go:102", after := #[{ on := 27, ground := Ground.data }, { on := 26, ground := Ground.chain }], guard := none }) (v := ?v254) rfl (by kernel_rfl) (by kernel_rfl) (by kernel_rfl) (fun _ _ _ h => h) (Or.inl ⟨by rfl, ?hy254⟩) hH26h.out ?rest254
            case hy254 => (intro w9 hS9; go_simp; (try with_reducible rfl))
            simp only [Act.put, List.setIfInBounds_toArray, List.set_cons_zero, List.set_cons_succ]
            refine wpAnyH_ready (rs := [29]) (by kernel_rfl) (by simp) ?_
            refine AllReadyH.cons (o := { dst := some 51, op := Op.call { callee := Callee.value (Operand.func 8), args := #[], argTypes := #[] }, type := 4, pos := "laws.go:102", after := #[{ on := 28, ground := Ground.chain }, { on := 28, ground := Ground.guard }], guard := some (28, true) }) rfl (fun K hK => ?_) (AllReadyH.nil)
            go_simp
            go_at_call 8
            refine (alive_any _).mono ?_
            rintro e w6 ⟨rfl, hB6⟩
            have HB6 := hide (next hH26h.out hB6)
            clear hB6
            go_wp2_with fail
            refine hK.out _ _ HB6.out (fun hH29 => ?_)
            clear hK K
            try simp only [Act.put, List.setIfInBounds_toArray, List.set_cons_zero, List.set_cons_succ]
            have hH29h := hide (show Below w4.heap.size w4 _ from hH29)
            clear hH29
            refine wpAnyH_take (i := 30) (oi := { dst := some 52, op := Op.pick (Operand.tmp 50) (Operand.tmp 51) (Operand.const (Value.bool false)), type := 4, pos := "laws.go:102", after := #[{ on := 28, ground := Ground.data }, { on := 29, ground := Ground.data }], guard := none }) (v := ?v255) rfl (by kernel_rfl) (by kernel_rfl) (by kernel_rfl) (fun _ _ _ h => h) (Or.inl ⟨by rfl, ?hy255⟩) hH29h.out ?rest255
            case hy255 => (intro w9 hS9; go_simp; (try with_reducible rfl))
            simp only [Act.put, List.setIfInBounds_toArray, List.set_cons_zero, List.set_cons_succ]
            refine wpAnyH_take (i := 31) (oi := { dst := some 2, op := Op.assign (Operand.tmp 52), type := 4, pos := "laws.go:102", after := #[{ on := 30, ground := Ground.data }, { on := 29, ground := Ground.chain }, { on := 0, ground := Ground.phase }, { on := 1, ground := Ground.phase }, { on := 2, ground := Ground.phase }, { on := 3, ground := Ground.phase }, { on := 4, ground := Ground.phase }, { on := 5, ground := Ground.phase }, { on := 6, ground := Ground.phase }, { on := 7, ground := Ground.phase }, { on := 8, ground := Ground.phase }, { on := 9, ground := Ground.phase }, { on := 10, ground := Ground.phase }, { on := 11, ground := Ground.phase }, { on := 12, ground := Ground.phase }, { on := 13, ground := Ground.phase }, { on := 14, ground := Ground.phase }, { on := 15, ground := Ground.phase }, { on := 16, ground := Ground.phase }, { on := 17, ground := Ground.phase }, { on := 18, ground := Ground.phase }, { on := 19, ground := Ground.phase }, { on := 20, ground := Ground.phase }, { on := 21, ground := Ground.phase }, { on := 22, ground := Ground.phase }, { on := 23, ground := Ground.phase }, { on := 24, ground := Ground.phase }, { on := 25, ground := Ground.phase }, { on := 26, ground := Ground.phase }, { on := 27, ground := Ground.phase }, { on := 28, ground := Ground.phase }, { on := 29, ground := Ground.phase }, { on := 30, ground := Ground.phase }], guard := none }) (v := ?v256) rfl (by kernel_rfl) (by kernel_rfl) (by kernel_rfl) (fun _ _ _ h => h) (Or.inl ⟨by rfl, ?hy256⟩) hH29h.out ?rest256
            case hy256 => (intro w9 hS9; go_simp; (try with_reducible rfl))
            simp only [Act.put, List.setIfInBounds_toArray, List.set_cons_zero, List.set_cons_succ]
            refine wpAnyH_done (by kernel_rfl) ?_ _
            refine NoPanic.normal ?_
            go_wp2_with fail
            go_ret
            exact ⟨rfl, next hb4 HB6.out⟩
        · have hl0 : ((l.length : Int) == 0) = false := by simp [h0]
          have hl1 : (0 : Int) < l.length := by omega
          have hsl : ∀ W, (Instr.slice 31 (.slice (some ⟨g, 0, none⟩) l.length c1) none (some (.int .i64 ((l.length : Int) - 1))) none).run Tryd.prog W = .ok (.slice (some ⟨g, 0, none⟩) (l.length - 1) c1) W := fun W => by
            have ht : Tryd.prog.underlying 31 = some (.slice (Tryd.prog.elem 31)) := rfl
            have hz : (sizeOf (Tryd.prog.elem 31)).run Tryd.prog W = .ok 3 W := by rfl
            rw [run_slice_h W _ _ _ _ ht .i64 ((l.length : Int) - 1) (by omega) (by omega), hz]
            have : ((l.length : Int) - 1).toNat = l.length - 1 := by omega
            simp [Result.andThen, sliced, Addr.add, this]
          have hsl2 : ∀ W, (Instr.sliceAt 31 (.slice (some ⟨g, 0, none⟩) l.length c1) none (some (.int .i64 ((l.length : Int) - 1))) none).run Tryd.prog W = .ok (.slice (some ⟨g, 0, none⟩) (l.length - 1) c1) W := fun W => (run_sliceAt_slice W _ _ _ _ _ rfl).trans (hsl W)
          have hwl : IntKind.i64.wrap ((l.length : Int) - 1) = (l.length : Int) - 1 := IntWalk.i64_in _ (by omega)
          have HTK : Hid (itemsOk (l.take (l.length - 1)) = true) := hide (itemsOk_take HV.out _)
          have HLT : Hid ((l.take (l.length - 1)).length = l.length - 1) := hide (by simp)
          clear h0
          refine wp_region_noPanic ?_
          refine wp_region_held_drew (S := fun W => Below w4.heap.size w4 W) (by kernel_rfl) (by go_grown) (fun hH0 => ?_)
          have hH0h := hide (show Below w4.heap.size w4 _ from hH0)
          clear hH0
          obtain ⟨w5, hw5⟩ : ∃ w5, World.drew w4 = w5 := ⟨_, rfl⟩
          rw [hw5] at hH0h ⊢
          have hz5 : w4.heap.size ≤ w5.heap.size := by rw [← hw5]; exact Nat.le_refl _
          clear hw5
          refine wpAnyH_take (i := 0) (oi := { dst := some 22, op := Op.move (Operand.tmp 4), type := 4, pos := "laws.go:102", after := #[], guard := none }) (v := ?v257) rfl (by kernel_rfl) (by kernel_rfl) (by kernel_rfl) (fun _ _ _ h => h) (Or.inl ⟨by rfl, ?hy257⟩) hH0h.out ?rest257
          case hy257 => (intro w9 hS9; go_simp; (try with_reducible rfl))
          simp only [Act.put, List.setIfInBounds_toArray, List.set_cons_zero, List.set_cons_succ]
          refine wpAnyH_take (i := 1) (oi := { dst := some 23, op := Op.unOp UnOp.not 4 (Operand.tmp 22), type := 4, pos := "laws.go:102", after := #[{ on := 0, ground := Ground.data }], guard := none }) (v := ?v258) rfl (by kernel_rfl) (by kernel_rfl) (by kernel_rfl) (fun _ _ _ h => h) (Or.inl ⟨by rfl, ?hy258⟩) hH0h.out ?rest258
          case hy258 => (intro w9 hS9; go_simp; (try with_reducible rfl))
          simp only [Act.put, List.setIfInBounds_toArray, List.set_cons_zero, List.set_cons_succ]
          refine wpAnyH_take (i := 2) (oi := { dst := some 24, op := Op.move (Operand.tmp 23), type := 4, pos := "laws.go:102", after := #[{ on := 1, ground := Ground.data }], guard := none }) (v := ?v259) rfl (by kernel_rfl) (by kernel_rfl) (by kernel_rfl) (fun _ _ _ h => h) (Or.inl ⟨by rfl, ?hy259⟩) hH0h.out ?rest259
          case hy259 => (intro w9 hS9; go_simp; (try with_reducible rfl))
          simp only [Act.put, List.setIfInBounds_toArray, List.set_cons_zero, List.set_cons_succ]
          refine wpAnyH_take (i := 3) (oi := { dst := some 25, op := Op.move (Operand.tmp 3), type := 31, pos := "laws.go:102", after := #[{ on := 2, ground := Ground.guard }], guard := some (2, false) }) (v := ?v260) rfl (by kernel_rfl) (by kernel_rfl) (by kernel_rfl) (fun _ _ _ h => h) (Or.inl ⟨by rfl, ?hy260⟩) hH0h.out ?rest260
          case hy260 => (intro w9 hS9; go_simp; (try with_reducible rfl))
          simp only [Act.put, List.setIfInBounds_toArray, List.set_cons_zero, List.set_cons_succ]
          refine wpAnyH_take (i := 4) (oi := { dst := some 26, op := Op.call { callee := Callee.builtin Builtin.len, args := #[Operand.tmp 25], argTypes := #[31] }, type := 3, pos := "laws.go:102", after := #[{ on := 3, ground := Ground.data }, { on := 2, ground := Ground.guard }], guard := some (2, false) }) (v := ?v261) rfl (by kernel_rfl) (by kernel_rfl) (by kernel_rfl) (fun _ _ _ h => h) (Or.inl ⟨by rfl, ?hy261⟩) hH0h.out ?rest261
          case hy261 => (intro w9 hS9; go_simp; (try with_reducible rfl))
          simp only [Act.put, List.setIfInBounds_toArray, List.set_cons_zero, List.set_cons_succ]
          refine wpAnyH_take (i := 5) (oi := { dst := some 27, op := Op.binOp BinOp.eql 3 (Operand.tmp 26) (Operand.const (Value.int IntKind.i64 0)) 3, type := 4, pos := "laws.go:102", after := #[{ on := 4, ground := Ground.data }, { on := 2, ground := Ground.guard }], guard := some (2, false) }) (v := ?v262) rfl (by kernel_rfl) (by kernel_rfl) (by kernel_rfl) (fun _ _ _ h => h) (Or.inl ⟨by rfl, ?hy262⟩) hH0h.out ?rest262
          case hy262 => (intro w9 hS9; go_simp; (try with_reducible rfl))
          simp only [Act.put, List.setIfInBounds_toArray, List.set_cons_zero, List.set_cons_succ]
          refine wpAnyH_take (i := 6) (oi := { dst := some 28, op := Op.pick (Operand.tmp 24) (Operand.const (Value.bool true)) (Operand.tmp 27), type := 4, pos := "laws.go:102", after := #[{ on := 2, ground := Ground.data }, { on := 5, ground := Ground.data }], guard := none }) (v := ?v263) rfl (by kernel_rfl) (by kernel_rfl) (by kernel_rfl) (fun _ _ _ h => h) (Or.inl ⟨by rfl, ?hy263⟩) hH0h.out ?rest263
          case hy263 => (intro w9 hS9; go_simp; (try with_reducible rfl))
          simp only [Act.put, List.setIfInBounds_toArray, List.set_cons_zero, List.set_cons_succ]
          refine wpAnyH_take (i := 7) (oi := { dst := some 29, op := Op.move (Operand.tmp 28), type := 4, pos := "laws.go:102", after := #[{ on := 6, ground := Ground.data }, { on := 2, ground := Ground.chain }], guard := none }) (v := ?v264) rfl (by kernel_rfl) (by kernel_rfl) (by kernel_rfl) (fun _ _ _ h => h) (Or.inl ⟨by rfl, ?hy264⟩) hH0h.out ?rest264
          case hy264 => (intro w9 hS9; go_simp; (try with_reducible rfl))
          simp only [Act.put, List.setIfInBounds_toArray, List.set_cons_zero, List.set_cons_succ]
          refine wpAnyH_take (i := 8) (oi := { dst := some 30, op := Op.move (Operand.tmp 3), type := 31, pos := "laws.go:102", after := #[{ on := 7, ground := Ground.guard }], guard := some (7, false) }) (v := ?v265) rfl (by kernel_rfl) (by kernel_rfl) (by kernel_rfl) (fun _ _ _ h => h) (Or.inl ⟨by rfl, ?hy265⟩) hH0h.out ?rest265
          case hy265 => (intro w9 hS9; go_simp; (try with_reducible rfl))
          simp only [Act.put, List.setIfInBounds_toArray, List.set_cons_zero, List.set_cons_succ]
          refine wpAnyH_take (i := 9) (oi := { dst := some 31, op := Op.move (Operand.tmp 3), type := 31, pos := "laws.go:102", after := #[{ on := 7, ground := Ground.guard }], guard := some (7, false) }) (v := ?v266) rfl (by kernel_rfl) (by kernel_rfl) (by kernel_rfl) (fun _ _ _ h => h) (Or.inl ⟨by rfl, ?hy266⟩) hH0h.out ?rest266
          case hy266 => (intro w9 hS9; go_simp; (try with_reducible rfl))
          simp only [Act.put, List.setIfInBounds_toArray, List.set_cons_zero, List.set_cons_succ]
          refine wpAnyH_take (i := 10) (oi := { dst := some 32, op := Op.call { callee := Callee.builtin Builtin.len, args := #[Operand.tmp 31], argTypes := #[31] }, type := 3, pos := "laws.go:102", after := #[{ on := 9, ground := Ground.data }, { on := 7, ground := Ground.guard }], guard := some (7, false) }) (v := ?v267) rfl (by kernel_rfl) (by kernel_rfl) (by kernel_rfl) (fun _ _ _ h => h) (Or.inl ⟨by rfl, ?hy267⟩) hH0h.out ?rest267
          case hy267 => (intro w9 hS9; go_simp; (try with_reducible rfl))
          simp only [Act.put, List.setIfInBounds_toArray, List.set_cons_zero, List.set_cons_succ]
          refine wpAnyH_take (i := 11) (oi := { dst := some 33, op := Op.binOp BinOp.sub 3 (Operand.tmp 32) (Operand.const (Value.int IntKind.i64 1)) 3, type := 3, pos := "laws.go:102", after := #[{ on := 10, ground := Ground.data }, { on := 7, ground := Ground.guard }], guard := some (7, false) }) (v := ?v268) rfl (by kernel_rfl) (by kernel_rfl) (by kernel_rfl) (fun _ _ _ h => h) (Or.inl ⟨by rfl, ?hy268⟩) hH0h.out ?rest268
          case hy268 => (intro w9 hS9; go_simp; (try with_reducible rfl))
          simp only [Act.put, List.setIfInBounds_toArray, List.set_cons_zero, List.set_cons_succ]
          refine wpAnyH_take (i := 12) (oi := { dst := some 34, op := Op.slice 31 (Operand.tmp 30) none (some (Operand.tmp 33)) none, type := 31, pos := "laws.go:102", after := #[{ on := 8, ground := Ground.data }, { on := 11, ground := Ground.data }, { on := 7, ground := Ground.guard }], guard := some (7, false) }) (v := ?v269) rfl (by kernel_rfl) (by kernel_rfl) (by kernel_rfl) (fun _ _ _ h => h) (Or.inl ⟨by rfl, ?hy269⟩) hH0h.out ?rest269
          case hy269 => (intro w9 hS9; go_simp; (try with_reducible rfl))
          simp only [Act.put, List.setIfInBounds_toArray, List.set_cons_zero, List.set_cons_succ]
          refine wpAnyH_ready (rs := [13]) (by kernel_rfl) (by simp) ?_
          refine AllReadyH.cons (o := { dst := some 35, op := Op.call { callee := Callee.value (Operand.func 10), args := #[Operand.tmp 34], argTypes := #[31] }, type := 4, pos := "laws.go:102", after := #[{ on := 12, ground := Ground.data }, { on := 7, ground := Ground.chain }, { on := 7, ground := Ground.guard }], guard := some (7, false) }) rfl (fun K hK => ?_) (AllReadyH.nil)
          go_simp
          go_at_call 10
          refine (implItemsValid_at _ _ _ _ _ _ HLT.out HTK (ItemsAt.takeI (HS4.out.belowC hH0h.out).itemsAt _) (by omega) (fun x hx => HP.out x (List.mem_of_mem_take hx))).mono ?_
          rintro e w5b ⟨rfl, hB5b⟩
          have HS5b := hide (next hH0h.out hB5b)
          have hz5b : w4.heap.size ≤ w5b.heap.size := HS5b.out.size
          clear hB5b
          go_wp2_with fail
          refine hK.out _ _ HS5b.out (fun hH13 => ?_)
          clear hK K
          try simp only [Act.put, List.setIfInBounds_toArray, List.set_cons_zero, List.set_cons_succ]
          have hH13h := hide (show Below w4.heap.size w4 _ from hH13)
          clear hH13
          refine wpAnyH_take (i := 14) (oi := { dst := some 36, op := Op.pick (Operand.tmp 29) (Operand.const (Value.bool true)) (Operand.tmp 35), type := 4, pos := "laws.go:102", after := #[{ on := 7, ground := Ground.data }, { on := 13, ground := Ground.data }], guard := none }) (v := ?v270) rfl (by kernel_rfl) (by kernel_rfl) (by kernel_rfl) (fun _ _ _ h => h) (Or.inl ⟨by rfl, ?hy270⟩) hH13h.out ?rest270
          case hy270 => (intro w9 hS9; go_simp; (try with_reducible rfl))
          simp only [Act.put, List.setIfInBounds_toArray, List.set_cons_zero, List.set_cons_succ]
          refine wpAnyH_take (i := 15) (oi := { dst := some 37, op := Op.move (Operand.tmp 36), type := 4, pos := "laws.go:102", after := #[{ on := 14, ground := Ground.data }, { on := 13, ground := Ground.chain }], guard := none }) (v := ?v271) rfl (by kernel_rfl) (by kernel_rfl) (by kernel_rfl) (fun _ _ _ h => h) (Or.inl ⟨by rfl, ?hy271⟩) hH13h.out ?rest271
          case hy271 => (intro w9 hS9; go_simp; (try with_reducible rfl))
          simp only [Act.put, List.setIfInBounds_toArray, List.set_cons_zero, List.set_cons_succ]
          refine wpAnyH_take (i := 17) (oi := { dst := some 39, op := Op.move (Operand.tmp 3), type := 31, pos := "laws.go:102", after := #[{ on := 15, ground := Ground.guard }], guard := some (15, true) }) (v := ?v272) rfl (by kernel_rfl) (by kernel_rfl) (by kernel_rfl) (fun _ _ _ h => h) (Or.inl ⟨by rfl, ?hy272⟩) hH13h.out ?rest272
          case hy272 => (intro w9 hS9; go_simp; (try with_reducible rfl))
          simp only [Act.put, List.setIfInBounds_toArray, List.set_cons_zero, List.set_cons_succ]
          refine wpAnyH_take (i := 19) (oi := { dst := some 41, op := Op.load 38 (Operand.tmp 5), type := 38, pos := "laws.go:102", after := #[{ on := 15, ground := Ground.guard }], guard := some (15, true) }) (v := ?v273) rfl (by kernel_rfl) (by kernel_rfl) (by kernel_rfl) (fun _ _ _ h => h) (Or.inl ⟨by rfl, ?hy273⟩) hH13h.out ?rest273
          case hy273 => (intro w9 hS9; have hc90 := (Below.cell (show Below w4.heap.size w4 w9 from hS9) hXl).trans hx0; have hc91 := (Below.cell (show Below w4.heap.size w4 w9 from hS9) hXl).trans hx1; have hc92 := (Below.cell (show Below w4.heap.size w4 w9 from hS9) hXl).trans hx2; go_simp; (try with_reducible rfl))
          simp only [Act.put, List.setIfInBounds_toArray, List.set_cons_zero, List.set_cons_succ]
          refine wpAnyH_ready (rs := [16, 20]) (by kernel_rfl) (by simp) ?_
          refine AllReadyH.cons (o := { dst := some 38, op := Op.buildSlice 31 0 #[], type := 31, pos := "laws.go:102", after := #[{ on := 15, ground := Ground.guard }], guard := some (15, true) }) rfl (fun K hK => ?_) (AllReadyH.cons (o := { dst := some 42, op := Op.buildSlice 31 1 #[(0, Operand.tmp 41)], type := 31, pos := "laws.go:102", after := #[{ on := 19, ground := Ground.data }, { on := 15, ground := Ground.guard }], guard := some (15, true) }) rfl (fun K hK => ?_) (AllReadyH.nil))
          ·
            go_simp
            have HO10 : Hid (ItemSl (w5b.alloc (.cells #[] 38)) w5b.heap.size (.slice (some ⟨w5b.heap.size, 0, none⟩) 0 0) []) := hide ⟨[], by exact World.ownsRow_lit w5b #[] 0 (by first | exact Nat.le_refl _ | (simp; done) | (simp <;> omega)) (by unfold maxLen; omega) rfl, fun i x hx => by simp at hx⟩
            refine hK.out _ _ (Below.alloc hH13h.out (Below.size hH13h.out) _) (fun hH16 => ?_)
            clear hK K
            try simp only [Act.put, List.setIfInBounds_toArray, List.set_cons_zero, List.set_cons_succ]
            have hH16h := hide (show Below w4.heap.size w4 _ from hH16)
            clear hH16
            refine wpAnyH_ready (rs := [18, 20]) (by kernel_rfl) (by simp) ?_
            refine AllReadyH.cons (o := { dst := some 40, op := Op.call { callee := Callee.builtin Builtin.append, args := #[Operand.tmp 38, Operand.tmp 39], argTypes := #[31, 31] }, type := 31, pos := "laws.go:102", after := #[{ on := 16, ground := Ground.data }, { on := 17, ground := Ground.data }, { on := 15, ground := Ground.chain }, { on := 15, ground := Ground.guard }], guard := some (15, true) }) rfl (fun K hK => ?_) (AllReadyH.cons (o := { dst := some 42, op := Op.buildSlice 31 1 #[(0, Operand.tmp 41)], type := 31, pos := "laws.go:102", after := #[{ on := 19, ground := Ground.data }, { on := 15, ground := Ground.guard }], guard := some (15, true) }) rfl (fun K hK => ?_) (AllReadyH.nil))
            ·
              refine step_copy_item (by rfl) _ _ (by rfl) w5b.heap.size (.slice (some ⟨w5b.heap.size, 0, none⟩) 0 0) (by rfl) HO10.out (by simp) g c1 lo l (by rfl) (HS4.out.belowC hH16h.out) (by omega) (by first | exact Nat.le_refl _ | (simp; done) | (simp <;> omega)) ?_
              intro g12 cap12 w12 hown12 hgrow12
              have HLW := hide (fun (k : Nat) (hk : ((.slice (some ⟨w5b.heap.size, 0, none⟩) 0 0) : Value).ownBlock = some k) => (by have := ItemSl.own_lt HO10.out k hk; exact this))
              have HS12 : Hid (Below w4.heap.size w4 w12) := hide (Below.grown hH16h.out hgrow12 (Below.size hH16h.out) (fun k hk => Nat.le_trans hz5b (HLW.out k hk).1))
              have HZ12 : w5b.heap.size ≤ w12.heap.size := Nat.le_trans (by first | exact Nat.le_refl _ | (simp; done) | (simp <;> omega)) hgrow12.size
              have HO12 : Hid (ItemSl w12 w5b.heap.size (.slice (some ⟨g12, 0, none⟩) l.length cap12) l) := hide hown12
              clear hown12 hgrow12 HLW
              refine hK.out _ _ HS12.out (fun hH18 => ?_)
              clear hK K
              try simp only [Act.put, List.setIfInBounds_toArray, List.set_cons_zero, List.set_cons_succ]
              have hH18h := hide (show Below w4.heap.size w4 _ from hH18)
              clear hH18
              refine wpAnyH_ready (rs := [20]) (by kernel_rfl) (by simp) ?_
              refine AllReadyH.cons (o := { dst := some 42, op := Op.buildSlice 31 1 #[(0, Operand.tmp 41)], type := 31, pos := "laws.go:102", after := #[{ on := 19, ground := Ground.data }, { on := 15, ground := Ground.guard }], guard := some (15, true) }) rfl (fun K hK => ?_) (AllReadyH.nil)
              go_simp
              have HO16 := hide (ItemSl.alloc HO12.out (.cells #[.int .i64 1, .slice (some ⟨w3.heap.size, 0, none⟩) 1 1, .int .i64 0] 38))
              have HG16 : Hid ((w12.alloc (.cells #[.int .i64 1, .slice (some ⟨w3.heap.size, 0, none⟩) 1 1, .int .i64 0] 38)).heap[w12.heap.size]? = some (.cells #[.int .i64 1, .slice (some ⟨w3.heap.size, 0, none⟩) 1 1, .int .i64 0] 38)) := hide (by exact heap_alloc_new w12 _)
              refine hK.out _ _ (Below.alloc hH18h.out (Below.size hH18h.out) _) (fun hH20 => ?_)
              clear hK K
              try simp only [Act.put, List.setIfInBounds_toArray, List.set_cons_zero, List.set_cons_succ]
              have hH20h := hide (show Below w4.heap.size w4 _ from hH20)
              clear hH20
              refine wpAnyH_ready (rs := [21]) (by kernel_rfl) (by simp) ?_
              refine AllReadyH.cons (o := { dst := some 43, op := Op.call { callee := Callee.builtin Builtin.append, args := #[Operand.tmp 40, Operand.tmp 42], argTypes := #[31, 31] }, type := 31, pos := "laws.go:102", after := #[{ on := 18, ground := Ground.data }, { on := 20, ground := Ground.data }, { on := 18, ground := Ground.chain }, { on := 15, ground := Ground.guard }], guard := some (15, true) }) rfl (fun K hK => ?_) (AllReadyH.nil)
              refine step_push_item (by rfl) _ _ (by rfl) w5b.heap.size (.slice (some ⟨g12, 0, none⟩) l.length cap12) l (by rfl) HO16.out (w12.heap.size) ⟨1, [⟨(l : List Item).length, 1⟩], 0⟩ (some ⟨w3.heap.size, 0, none⟩) 1 (by rfl) HG16.out (parts_lit ((Below.block hH20h.out _ hPl).trans HPT.out)).1 (parts_lit ((Below.block hH20h.out _ hPl).trans HPT.out)).2 (by first | omega | simp) (by first | exact HZ12 | (simp <;> omega)) ?_
              intro g17 cap17 w17 hown17 hgrow17
              have HS17 : Hid (Below w4.heap.size w4 w17) := hide (Below.grown hH20h.out hgrow17 (Below.size hH20h.out) (fun k hk => Nat.le_trans hz5b (ItemSl.own_lt HO16.out k hk).1))
              have HO17 := hide hown17
              clear hown17 hgrow17
              refine hK.out _ _ HS17.out (fun hH21 => ?_)
              clear hK K
              try simp only [Act.put, List.setIfInBounds_toArray, List.set_cons_zero, List.set_cons_succ]
              have hH21h := hide (show Below w4.heap.size w4 _ from hH21)
              clear hH21
              refine wpAnyH_ready (rs := [22]) (by kernel_rfl) (by simp) ?_
              refine AllReadyH.cons (o := { dst := some 44, op := Op.call { callee := Callee.value (Operand.func 10), args := #[Operand.tmp 43], argTypes := #[31] }, type := 4, pos := "laws.go:102", after := #[{ on := 21, ground := Ground.data }, { on := 21, ground := Ground.chain }, { on := 15, ground := Ground.guard }], guard := some (15, true) }) rfl (fun K hK => ?_) (AllReadyH.nil)
              go_simp
              go_at_call 10
              refine (implItemsValid_at _ _ _ _ _ _ (by simp) HWR HO17.out.itemsAt (by first | omega | simp) HPW.out).mono ?_
              rintro e w19 ⟨rfl, hB19⟩
              have HS19 := hide (next hH21h.out hB19)
              clear hB19
              go_wp2_with fail
              refine hK.out _ _ HS19.out (fun hH22 => ?_)
              clear hK K
              try simp only [Act.put, List.setIfInBounds_toArray, List.set_cons_zero, List.set_cons_succ]
              have hH22h := hide (show Below w4.heap.size w4 _ from hH22)
              clear hH22
              refine wpAnyH_take (i := 23) (oi := { dst := some 45, op := Op.unOp UnOp.not 4 (Operand.tmp 44), type := 4, pos := "laws.go:102", after := #[{ on := 22, ground := Ground.data }, { on := 15, ground := Ground.guard }], guard := some (15, true) }) (v := ?v274) rfl (by kernel_rfl) (by kernel_rfl) (by kernel_rfl) (fun _ _ _ h => h) (Or.inl ⟨by rfl, ?hy274⟩) hH22h.out ?rest274
              case hy274 => (intro w9 hS9; go_simp; (try with_reducible rfl))
              simp only [Act.put, List.setIfInBounds_toArray, List.set_cons_zero, List.set_cons_succ]
              refine wpAnyH_take (i := 24) (oi := { dst := some 46, op := Op.pick (Operand.tmp 37) (Operand.tmp 45) (Operand.const (Value.bool false)), type := 4, pos := "laws.go:102", after := #[{ on := 15, ground := Ground.data }, { on := 23, ground := Ground.data }], guard := none }) (v := ?v275) rfl (by kernel_rfl) (by kernel_rfl) (by kernel_rfl) (fun _ _ _ h => h) (Or.inl ⟨by rfl, ?hy275⟩) hH22h.out ?rest275
              case hy275 => (intro w9 hS9; go_simp; (try with_reducible rfl))
              simp only [Act.put, List.setIfInBounds_toArray, List.set_cons_zero, List.set_cons_succ]
              refine wpAnyH_take (i := 25) (oi := { dst := some 47, op := Op.move (Operand.tmp 46), type := 4, pos := "laws.go:102", after := #[{ on := 24, ground := Ground.data }, { on := 22, ground := Ground.chain }], guard := none }) (v := ?v276) rfl (by kernel_rfl) (by kernel_rfl) (by kernel_rfl) (fun _ _ _ h => h) (Or.inl ⟨by rfl, ?hy276⟩) hH22h.out ?rest276
              case hy276 => (intro w9 hS9; go_simp; (try with_reducible rfl))
              simp only [Act.put, List.setIfInBounds_toArray, List.set_cons_zero, List.set_cons_succ]
              refine wpAnyH_ready (rs := [26]) (by kernel_rfl) (by simp) ?_
              refine AllReadyH.cons (o := { dst := some 48, op := Op.call { callee := Callee.value (Operand.func 10), args := #[Operand.const (Value.slice none 0 0)], argTypes := #[31] }, type := 4, pos := "laws.go:102", after := #[{ on := 25, ground := Ground.chain }, { on := 25, ground := Ground.guard }], guard := some (25, true) }) rfl (fun K hK => ?_) (AllReadyH.nil)
              go_simp
              go_at_call 10
              refine (implItemsValid_at none 0 0 [] true _ rfl (hide rfl) (fun i x hx => by simp at hx) (by omega) (fun x hx => by simp at hx)).mono ?_
              rintro e w20 ⟨rfl, hB20⟩
              have HS20 := hide (next hH22h.out hB20)
              clear hB20
              go_wp2_with fail
              refine hK.out _ _ HS20.out (fun hH26 => ?_)
              clear hK K
              try simp only [Act.put, List.setIfInBounds_toArray, List.set_cons_zero, List.set_cons_succ]
              have hH26h := hide (show Below w4.heap.size w4 _ from hH26)
              clear hH26
              refine wpAnyH_take (i := 27) (oi := { dst := some 49, op := Op.pick (Operand.tmp 47) (Operand.tmp 48) (Operand.const (Value.bool false)), type := 4, pos := "laws.go:102", after := #[{ on := 25, ground := Ground.data }, { on := 26, ground := Ground.data }], guard := none }) (v := ?v277) rfl (by kernel_rfl) (by kernel_rfl) (by kernel_rfl) (fun _ _ _ h => h) (Or.inl ⟨by rfl, ?hy277⟩) hH26h.out ?rest277
              case hy277 => (intro w9 hS9; go_simp; (try with_reducible rfl))
              simp only [Act.put, List.setIfInBounds_toArray, List.set_cons_zero, List.set_cons_succ]
              refine wpAnyH_take (i := 28) (oi := { dst := some 50, op := Op.move (Operand.tmp 49), type := 4, pos := "laws.go:102", after := #[{ on := 27, ground := Ground.data }, { on := 26, ground := Ground.chain }], guard := none }) (v := ?v278) rfl (by kernel_rfl) (by kernel_rfl) (by kernel_rfl) (fun _ _ _ h => h) (Or.inl ⟨by rfl, ?hy278⟩) hH26h.out ?rest278
              case hy278 => (intro w9 hS9; go_simp; (try with_reducible rfl))
              simp only [Act.put, List.setIfInBounds_toArray, List.set_cons_zero, List.set_cons_succ]
              refine wpAnyH_ready (rs := [29]) (by kernel_rfl) (by simp) ?_
              refine AllReadyH.cons (o := { dst := some 51, op := Op.call { callee := Callee.value (Operand.func 8), args := #[], argTypes := #[] }, type := 4, pos := "laws.go:102", after := #[{ on := 28, ground := Ground.chain }, { on := 28, ground := Ground.guard }], guard := some (28, true) }) rfl (fun K hK => ?_) (AllReadyH.nil)
              go_simp
              go_at_call 8
              refine (alive_any _).mono ?_
              rintro e w6 ⟨rfl, hB6⟩
              have HB6 := hide (next hH26h.out hB6)
              clear hB6
              go_wp2_with fail
              refine hK.out _ _ HB6.out (fun hH29 => ?_)
              clear hK K
              try simp only [Act.put, List.setIfInBounds_toArray, List.set_cons_zero, List.set_cons_succ]
              have hH29h := hide (show Below w4.heap.size w4 _ from hH29)
              clear hH29
              refine wpAnyH_take (i := 30) (oi := { dst := some 52, op := Op.pick (Operand.tmp 50) (Operand.tmp 51) (Operand.const (Value.bool false)), type := 4, pos := "laws.go:102", after := #[{ on := 28, ground := Ground.data }, { on := 29, ground := Ground.data }], guard := none }) (v := ?v279) rfl (by kernel_rfl) (by kernel_rfl) (by kernel_rfl) (fun _ _ _ h => h) (Or.inl ⟨by rfl, ?hy279⟩) hH29h.out ?rest279
              case hy279 => (intro w9 hS9; go_simp; (try with_reducible rfl))
              simp only [Act.put, List.setIfInBounds_toArray, List.set_cons_zero, List.set_cons_succ]
              refine wpAnyH_take (i := 31) (oi := { dst := some 2, op := Op.assign (Operand.tmp 52), type := 4, pos := "laws.go:102", after := #[{ on := 30, ground := Ground.data }, { on := 29, ground := Ground.chain }, { on := 0, ground := Ground.phase }, { on := 1, ground := Ground.phase }, { on := 2, ground := Ground.phase }, { on := 3, ground := Ground.phase }, { on := 4, ground := Ground.phase }, { on := 5, ground := Ground.phase }, { on := 6, ground := Ground.phase }, { on := 7, ground := Ground.phase }, { on := 8, ground := Ground.phase }, { on := 9, ground := Ground.phase }, { on := 10, ground := Ground.phase }, { on := 11, ground := Ground.phase }, { on := 12, ground := Ground.phase }, { on := 13, ground := Ground.phase }, { on := 14, ground := Ground.phase }, { on := 15, ground := Ground.phase }, { on := 16, ground := Ground.phase }, { on := 17, ground := Ground.phase }, { on := 18, ground := Ground.phase }, { on := 19, ground := Ground.phase }, { on := 20, ground := Ground.phase }, { on := 21, ground := Ground.phase }, { on := 22, ground := Ground.phase }, { on := 23, ground := Ground.phase }, { on := 24, ground := Ground.phase }, { on := 25, ground := Ground.phase }, { on := 26, ground := Ground.phase }, { on := 27, ground := Ground.phase }, { on := 28, ground := Ground.phase }, { on := 29, ground := Ground.phase }, { on := 30, ground := Ground.phase }], guard := none }) (v := ?v280) rfl (by kernel_rfl) (by kernel_rfl) (by kernel_rfl) (fun _ _ _ h => h) (Or.inl ⟨by rfl, ?hy280⟩) hH29h.out ?rest280
              case hy280 => (intro w9 hS9; go_simp; (try with_reducible rfl))
              simp only [Act.put, List.setIfInBounds_toArray, List.set_cons_zero, List.set_cons_succ]
              refine wpAnyH_done (by kernel_rfl) ?_ _
              refine NoPanic.normal ?_
              go_wp2_with fail
              go_ret
              exact ⟨rfl, next hb4 HB6.out⟩
            ·
              go_simp
              have HO16 := hide (ItemSl.alloc HO10.out (.cells #[.int .i64 1, .slice (some ⟨w3.heap.size, 0, none⟩) 1 1, .int .i64 0] 38))
              have HG16 : Hid (((w5b.alloc (.cells #[] 38)).alloc (.cells #[.int .i64 1, .slice (some ⟨w3.heap.size, 0, none⟩) 1 1, .int .i64 0] 38)).heap[(w5b.heap.size + 1)]? = some (.cells #[.int .i64 1, .slice (some ⟨w3.heap.size, 0, none⟩) 1 1, .int .i64 0] 38)) := hide (by rw [show w5b.heap.size + 1 = (w5b.alloc (.cells #[] 38)).heap.size by simp]; exact heap_alloc_new (w5b.alloc (.cells #[] 38)) _)
              refine hK.out _ _ (Below.alloc hH16h.out (Below.size hH16h.out) _) (fun hH20 => ?_)
              clear hK K
              try simp only [Act.put, List.setIfInBounds_toArray, List.set_cons_zero, List.set_cons_succ]
              have hH20h := hide (show Below w4.heap.size w4 _ from hH20)
              clear hH20
              refine wpAnyH_ready (rs := [18]) (by kernel_rfl) (by simp) ?_
              refine AllReadyH.cons (o := { dst := some 40, op := Op.call { callee := Callee.builtin Builtin.append, args := #[Operand.tmp 38, Operand.tmp 39], argTypes := #[31, 31] }, type := 31, pos := "laws.go:102", after := #[{ on := 16, ground := Ground.data }, { on := 17, ground := Ground.data }, { on := 15, ground := Ground.chain }, { on := 15, ground := Ground.guard }], guard := some (15, true) }) rfl (fun K hK => ?_) (AllReadyH.nil)
              refine step_copy_item (by rfl) _ _ (by rfl) w5b.heap.size (.slice (some ⟨w5b.heap.size, 0, none⟩) 0 0) (by rfl) HO16.out (by simp) g c1 lo l (by rfl) (HS4.out.belowC hH20h.out) (by omega) (by first | exact Nat.le_refl _ | (simp; done) | (simp <;> omega)) ?_
              intro g12 cap12 w12 hown12 hgrow12
              have HLW := hide (fun (k : Nat) (hk : ((.slice (some ⟨w5b.heap.size, 0, none⟩) 0 0) : Value).ownBlock = some k) => (by have := ItemSl.own_lt HO16.out k hk; exact this))
              have HS12 : Hid (Below w4.heap.size w4 w12) := hide (Below.grown hH20h.out hgrow12 (Below.size hH20h.out) (fun k hk => Nat.le_trans hz5b (HLW.out k hk).1))
              have HZ12 : w5b.heap.size ≤ w12.heap.size := Nat.le_trans (by first | exact Nat.le_refl _ | (simp; done) | (simp <;> omega)) hgrow12.size
              have HG12 : Hid (w12.heap[(w5b.heap.size + 1)]? = some (.cells #[.int .i64 1, .slice (some ⟨w3.heap.size, 0, none⟩) 1 1, .int .i64 0] 38)) := hide ((hgrow12.block _ (by first | (simp; done) | (simp; omega)) (fun e => by have e : some ((w5b.heap.size + 1)) = some (w5b.heap.size) := e; injection e with e; simp at e)).trans HG16.out)
              have HO12 : Hid (ItemSl w12 w5b.heap.size (.slice (some ⟨g12, 0, none⟩) l.length cap12) l) := hide hown12
              clear hown12 hgrow12 HLW
              refine hK.out _ _ HS12.out (fun hH18 => ?_)
              clear hK K
              try simp only [Act.put, List.setIfInBounds_toArray, List.set_cons_zero, List.set_cons_succ]
              have hH18h := hide (show Below w4.heap.size w4 _ from hH18)
              clear hH18
              refine wpAnyH_ready (rs := [21]) (by kernel_rfl) (by simp) ?_
              refine AllReadyH.cons (o := { dst := some 43, op := Op.call { callee := Callee.builtin Builtin.append, args := #[Operand.tmp 40, Operand.tmp 42], argTypes := #[31, 31] }, type := 31, pos := "laws.go:102", after := #[{ on := 18, ground := Ground.data }, { on := 20, ground := Ground.data }, { on := 18, ground := Ground.chain }, { on := 15, ground := Ground.guard }], guard := some (15, true) }) rfl (fun K hK => ?_) (AllReadyH.nil)
              refine step_push_item (by rfl) _ _ (by rfl) w5b.heap.size (.slice (some ⟨g12, 0, none⟩) l.length cap12) l (by rfl) HO12.out ((w5b.heap.size + 1)) ⟨1, [⟨(l : List Item).length, 1⟩], 0⟩ (some ⟨w3.heap.size, 0, none⟩) 1 (by rfl) HG12.out (parts_lit ((Below.block hH18h.out _ hPl).trans HPT.out)).1 (parts_lit ((Below.block hH18h.out _ hPl).trans HPT.out)).2 (by first | omega | simp) (by first | exact HZ12 | (simp <;> omega)) ?_
              intro g17 cap17 w17 hown17 hgrow17
              have HS17 : Hid (Below w4.heap.size w4 w17) := hide (Below.grown hH18h.out hgrow17 (Below.size hH18h.out) (fun k hk => Nat.le_trans hz5b (ItemSl.own_lt HO12.out k hk).1))
              have HO17 := hide hown17
              clear hown17 hgrow17
              refine hK.out _ _ HS17.out (fun hH21 => ?_)
              clear hK K
              try simp only [Act.put, List.setIfInBounds_toArray, List.set_cons_zero, List.set_cons_succ]
              have hH21h := hide (show Below w4.heap.size w4 _ from hH21)
              clear hH21
              refine wpAnyH_ready (rs := [22]) (by kernel_rfl) (by simp) ?_
              refine AllReadyH.cons (o := { dst := some 44, op := Op.call { callee := Callee.value (Operand.func 10), args := #[Operand.tmp 43], argTypes := #[31] }, type := 4, pos := "laws.go:102", after := #[{ on := 21, ground := Ground.data }, { on := 21, ground := Ground.chain }, { on := 15, ground := Ground.guard }], guard := some (15, true) }) rfl (fun K hK => ?_) (AllReadyH.nil)
              go_simp
              go_at_call 10
              refine (implItemsValid_at _ _ _ _ _ _ (by simp) HWR HO17.out.itemsAt (by first | omega | simp) HPW.out).mono ?_
              rintro e w19 ⟨rfl, hB19⟩
              have HS19 := hide (next hH21h.out hB19)
              clear hB19
              go_wp2_with fail
              refine hK.out _ _ HS19.out (fun hH22 => ?_)
              clear hK K
              try simp only [Act.put, List.setIfInBounds_toArray, List.set_cons_zero, List.set_cons_succ]
              have hH22h := hide (show Below w4.heap.size w4 _ from hH22)
              clear hH22
              refine wpAnyH_take (i := 23) (oi := { dst := some 45, op := Op.unOp UnOp.not 4 (Operand.tmp 44), type := 4, pos := "laws.go:102", after := #[{ on := 22, ground := Ground.data }, { on := 15, ground := Ground.guard }], guard := some (15, true) }) (v := ?v281) rfl (by kernel_rfl) (by kernel_rfl) (by kernel_rfl) (fun _ _ _ h => h) (Or.inl ⟨by rfl, ?hy281⟩) hH22h.out ?rest281
              case hy281 => (intro w9 hS9; go_simp; (try with_reducible rfl))
              simp only [Act.put, List.setIfInBounds_toArray, List.set_cons_zero, List.set_cons_succ]
              refine wpAnyH_take (i := 24) (oi := { dst := some 46, op := Op.pick (Operand.tmp 37) (Operand.tmp 45) (Operand.const (Value.bool false)), type := 4, pos := "laws.go:102", after := #[{ on := 15, ground := Ground.data }, { on := 23, ground := Ground.data }], guard := none }) (v := ?v282) rfl (by kernel_rfl) (by kernel_rfl) (by kernel_rfl) (fun _ _ _ h => h) (Or.inl ⟨by rfl, ?hy282⟩) hH22h.out ?rest282
              case hy282 => (intro w9 hS9; go_simp; (try with_reducible rfl))
              simp only [Act.put, List.setIfInBounds_toArray, List.set_cons_zero, List.set_cons_succ]
              refine wpAnyH_take (i := 25) (oi := { dst := some 47, op := Op.move (Operand.tmp 46), type := 4, pos := "laws.go:102", after := #[{ on := 24, ground := Ground.data }, { on := 22, ground := Ground.chain }], guard := none }) (v := ?v283) rfl (by kernel_rfl) (by kernel_rfl) (by kernel_rfl) (fun _ _ _ h => h) (Or.inl ⟨by rfl, ?hy283⟩) hH22h.out ?rest283
              case hy283 => (intro w9 hS9; go_simp; (try with_reducible rfl))
              simp only [Act.put, List.setIfInBounds_toArray, List.set_cons_zero, List.set_cons_succ]
              refine wpAnyH_ready (rs := [26]) (by kernel_rfl) (by simp) ?_
              refine AllReadyH.cons (o := { dst := some 48, op := Op.call { callee := Callee.value (Operand.func 10), args := #[Operand.const (Value.slice none 0 0)], argTypes := #[31] }, type := 4, pos := "laws.go:102", after := #[{ on := 25, ground := Ground.chain }, { on := 25, ground := Ground.guard }], guard := some (25, true) }) rfl (fun K hK => ?_) (AllReadyH.nil)
              go_simp
              go_at_call 10
              refine (implItemsValid_at none 0 0 [] true _ rfl (hide rfl) (fun i x hx => by simp at hx) (by omega) (fun x hx => by simp at hx)).mono ?_
              rintro e w20 ⟨rfl, hB20⟩
              have HS20 := hide (next hH22h.out hB20)
              clear hB20
              go_wp2_with fail
              refine hK.out _ _ HS20.out (fun hH26 => ?_)
              clear hK K
              try simp only [Act.put, List.setIfInBounds_toArray, List.set_cons_zero, List.set_cons_succ]
              have hH26h := hide (show Below w4.heap.size w4 _ from hH26)
              clear hH26
              refine wpAnyH_take (i := 27) (oi := { dst := some 49, op := Op.pick (Operand.tmp 47) (Operand.tmp 48) (Operand.const (Value.bool false)), type := 4, pos := "laws.go:102", after := #[{ on := 25, ground := Ground.data }, { on := 26, ground := Ground.data }], guard := none }) (v := ?v284) rfl (by kernel_rfl) (by kernel_rfl) (by kernel_rfl) (fun _ _ _ h => h) (Or.inl ⟨by rfl, ?hy284⟩) hH26h.out ?rest284
              case hy284 => (intro w9 hS9; go_simp; (try with_reducible rfl))
              simp only [Act.put, List.setIfInBounds_toArray, List.set_cons_zero, List.set_cons_succ]
              refine wpAnyH_take (i := 28) (oi := { dst := some 50, op := Op.move (Operand.tmp 49), type := 4, pos := "laws.go:102", after := #[{ on := 27, ground := Ground.data }, { on := 26, ground := Ground.chain }], guard := none }) (v := ?v285) rfl (by kernel_rfl) (by kernel_rfl) (by kernel_rfl) (fun _ _ _ h => h) (Or.inl ⟨by rfl, ?hy285⟩) hH26h.out ?rest285
              case hy285 => (intro w9 hS9; go_simp; (try with_reducible rfl))
              simp only [Act.put, List.setIfInBounds_toArray, List.set_cons_zero, List.set_cons_succ]
              refine wpAnyH_ready (rs := [29]) (by kernel_rfl) (by simp) ?_
              refine AllReadyH.cons (o := { dst := some 51, op := Op.call { callee := Callee.value (Operand.func 8), args := #[], argTypes := #[] }, type := 4, pos := "laws.go:102", after := #[{ on := 28, ground := Ground.chain }, { on := 28, ground := Ground.guard }], guard := some (28, true) }) rfl (fun K hK => ?_) (AllReadyH.nil)
              go_simp
              go_at_call 8
              refine (alive_any _).mono ?_
              rintro e w6 ⟨rfl, hB6⟩
              have HB6 := hide (next hH26h.out hB6)
              clear hB6
              go_wp2_with fail
              refine hK.out _ _ HB6.out (fun hH29 => ?_)
              clear hK K
              try simp only [Act.put, List.setIfInBounds_toArray, List.set_cons_zero, List.set_cons_succ]
              have hH29h := hide (show Below w4.heap.size w4 _ from hH29)
              clear hH29
              refine wpAnyH_take (i := 30) (oi := { dst := some 52, op := Op.pick (Operand.tmp 50) (Operand.tmp 51) (Operand.const (Value.bool false)), type := 4, pos := "laws.go:102", after := #[{ on := 28, ground := Ground.data }, { on := 29, ground := Ground.data }], guard := none }) (v := ?v286) rfl (by kernel_rfl) (by kernel_rfl) (by kernel_rfl) (fun _ _ _ h => h) (Or.inl ⟨by rfl, ?hy286⟩) hH29h.out ?rest286
              case hy286 => (intro w9 hS9; go_simp; (try with_reducible rfl))
              simp only [Act.put, List.setIfInBounds_toArray, List.set_cons_zero, List.set_cons_succ]
              refine wpAnyH_take (i := 31) (oi := { dst := some 2, op := Op.assign (Operand.tmp 52), type := 4, pos := "laws.go:102", after := #[{ on := 30, ground := Ground.data }, { on := 29, ground := Ground.chain }, { on := 0, ground := Ground.phase }, { on := 1, ground := Ground.phase }, { on := 2, ground := Ground.phase }, { on := 3, ground := Ground.phase }, { on := 4, ground := Ground.phase }, { on := 5, ground := Ground.phase }, { on := 6, ground := Ground.phase }, { on := 7, ground := Ground.phase }, { on := 8, ground := Ground.phase }, { on := 9, ground := Ground.phase }, { on := 10, ground := Ground.phase }, { on := 11, ground := Ground.phase }, { on := 12, ground := Ground.phase }, { on := 13, ground := Ground.phase }, { on := 14, ground := Ground.phase }, { on := 15, ground := Ground.phase }, { on := 16, ground := Ground.phase }, { on := 17, ground := Ground.phase }, { on := 18, ground := Ground.phase }, { on := 19, ground := Ground.phase }, { on := 20, ground := Ground.phase }, { on := 21, ground := Ground.phase }, { on := 22, ground := Ground.phase }, { on := 23, ground := Ground.phase }, { on := 24, ground := Ground.phase }, { on := 25, ground := Ground.phase }, { on := 26, ground := Ground.phase }, { on := 27, ground := Ground.phase }, { on := 28, ground := Ground.phase }, { on := 29, ground := Ground.phase }, { on := 30, ground := Ground.phase }], guard := none }) (v := ?v287) rfl (by kernel_rfl) (by kernel_rfl) (by kernel_rfl) (fun _ _ _ h => h) (Or.inl ⟨by rfl, ?hy287⟩) hH29h.out ?rest287
              case hy287 => (intro w9 hS9; go_simp; (try with_reducible rfl))
              simp only [Act.put, List.setIfInBounds_toArray, List.set_cons_zero, List.set_cons_succ]
              refine wpAnyH_done (by kernel_rfl) ?_ _
              refine NoPanic.normal ?_
              go_wp2_with fail
              go_ret
              exact ⟨rfl, next hb4 HB6.out⟩
          ·
            go_simp
            have HG16 : Hid ((w5b.alloc (.cells #[.int .i64 1, .slice (some ⟨w3.heap.size, 0, none⟩) 1 1, .int .i64 0] 38)).heap[w5b.heap.size]? = some (.cells #[.int .i64 1, .slice (some ⟨w3.heap.size, 0, none⟩) 1 1, .int .i64 0] 38)) := hide (by exact heap_alloc_new w5b _)
            refine hK.out _ _ (Below.alloc hH13h.out (Below.size hH13h.out) _) (fun hH20 => ?_)
            clear hK K
            try simp only [Act.put, List.setIfInBounds_toArray, List.set_cons_zero, List.set_cons_succ]
            have hH20h := hide (show Below w4.heap.size w4 _ from hH20)
            clear hH20
            refine wpAnyH_ready (rs := [16]) (by kernel_rfl) (by simp) ?_
            refine AllReadyH.cons (o := { dst := some 38, op := Op.buildSlice 31 0 #[], type := 31, pos := "laws.go:102", after := #[{ on := 15, ground := Ground.guard }], guard := some (15, true) }) rfl (fun K hK => ?_) (AllReadyH.nil)
            go_simp
            have HO10 : Hid (ItemSl ((w5b.alloc (.cells #[.int .i64 1, .slice (some ⟨w3.heap.size, 0, none⟩) 1 1, .int .i64 0] 38)).alloc (.cells #[] 38)) w5b.heap.size (.slice (some ⟨(w5b.heap.size + 1), 0, none⟩) 0 0) []) := hide ⟨[], by rw [show w5b.heap.size + 1 = (w5b.alloc (.cells #[.int .i64 1, .slice (some ⟨w3.heap.size, 0, none⟩) 1 1, .int .i64 0] 38)).heap.size by simp]; exact World.ownsRow_lit (w5b.alloc (.cells #[.int .i64 1, .slice (some ⟨w3.heap.size, 0, none⟩) 1 1, .int .i64 0] 38)) #[] 0 (by first | exact Nat.le_refl _ | (simp; done) | (simp <;> omega)) (by unfold maxLen; omega) rfl, fun i x hx => by simp at hx⟩
            have HG10 : Hid (((w5b.alloc (.cells #[.int .i64 1, .slice (some ⟨w3.heap.size, 0, none⟩) 1 1, .int .i64 0] 38)).alloc (.cells #[] 38)).heap[w5b.heap.size]? = some (.cells #[.int .i64 1, .slice (some ⟨w3.heap.size, 0, none⟩) 1 1, .int .i64 0] 38)) := hide (((World.grownBy_alloc (w5b.alloc (.cells #[.int .i64 1, .slice (some ⟨w3.heap.size, 0, none⟩) 1 1, .int .i64 0] 38)) _ none).block _ (by simp) (by simp)).trans HG16.out)
            refine hK.out _ _ (Below.alloc hH20h.out (Below.size hH20h.out) _) (fun hH16 => ?_)
            clear hK K
            try simp only [Act.put, List.setIfInBounds_toArray, List.set_cons_zero, List.set_cons_succ]
            have hH16h := hide (show Below w4.heap.size w4 _ from hH16)
            clear hH16
            refine wpAnyH_ready (rs := [18]) (by kernel_rfl) (by simp) ?_
            refine AllReadyH.cons (o := { dst := some 40, op := Op.call { callee := Callee.builtin Builtin.append, args := #[Operand.tmp 38, Operand.tmp 39], argTypes := #[31, 31] }, type := 31, pos := "laws.go:102", after := #[{ on := 16, ground := Ground.data }, { on := 17, ground := Ground.data }, { on := 15, ground := Ground.chain }, { on := 15, ground := Ground.guard }], guard := some (15, true) }) rfl (fun K hK => ?_) (AllReadyH.nil)
            refine step_copy_item (by rfl) _ _ (by rfl) w5b.heap.size (.slice (some ⟨(w5b.heap.size + 1), 0, none⟩) 0 0) (by rfl) HO10.out (by simp) g c1 lo l (by rfl) (HS4.out.belowC hH16h.out) (by omega) (by first | exact Nat.le_refl _ | (simp; done) | (simp <;> omega)) ?_
            intro g12 cap12 w12 hown12 hgrow12
            have HLW := hide (fun (k : Nat) (hk : ((.slice (some ⟨(w5b.heap.size + 1), 0, none⟩) 0 0) : Value).ownBlock = some k) => (by have := ItemSl.own_lt HO10.out k hk; exact this))
            have HS12 : Hid (Below w4.heap.size w4 w12) := hide (Below.grown hH16h.out hgrow12 (Below.size hH16h.out) (fun k hk => Nat.le_trans hz5b (HLW.out k hk).1))
            have HZ12 : w5b.heap.size ≤ w12.heap.size := Nat.le_trans (by first | exact Nat.le_refl _ | (simp; done) | (simp <;> omega)) hgrow12.size
            have HG12 : Hid (w12.heap[w5b.heap.size]? = some (.cells #[.int .i64 1, .slice (some ⟨w3.heap.size, 0, none⟩) 1 1, .int .i64 0] 38)) := hide ((hgrow12.block _ (by first | (simp; done) | (simp; omega)) (fun e => by have e : some (w5b.heap.size) = some ((w5b.heap.size + 1)) := e; injection e with e; simp at e)).trans HG10.out)
            have HO12 : Hid (ItemSl w12 w5b.heap.size (.slice (some ⟨g12, 0, none⟩) l.length cap12) l) := hide hown12
            clear hown12 hgrow12 HLW
            refine hK.out _ _ HS12.out (fun hH18 => ?_)
            clear hK K
            try simp only [Act.put, List.setIfInBounds_toArray, List.set_cons_zero, List.set_cons_succ]
            have hH18h := hide (show Below w4.heap.size w4 _ from hH18)
            clear hH18
            refine wpAnyH_ready (rs := [21]) (by kernel_rfl) (by simp) ?_
            refine AllReadyH.cons (o := { dst := some 43, op := Op.call { callee := Callee.builtin Builtin.append, args := #[Operand.tmp 40, Operand.tmp 42], argTypes := #[31, 31] }, type := 31, pos := "laws.go:102", after := #[{ on := 18, ground := Ground.data }, { on := 20, ground := Ground.data }, { on := 18, ground := Ground.chain }, { on := 15, ground := Ground.guard }], guard := some (15, true) }) rfl (fun K hK => ?_) (AllReadyH.nil)
            refine step_push_item (by rfl) _ _ (by rfl) w5b.heap.size (.slice (some ⟨g12, 0, none⟩) l.length cap12) l (by rfl) HO12.out (w5b.heap.size) ⟨1, [⟨(l : List Item).length, 1⟩], 0⟩ (some ⟨w3.heap.size, 0, none⟩) 1 (by rfl) HG12.out (parts_lit ((Below.block hH18h.out _ hPl).trans HPT.out)).1 (parts_lit ((Below.block hH18h.out _ hPl).trans HPT.out)).2 (by first | omega | simp) (by first | exact HZ12 | (simp <;> omega)) ?_
            intro g17 cap17 w17 hown17 hgrow17
            have HS17 : Hid (Below w4.heap.size w4 w17) := hide (Below.grown hH18h.out hgrow17 (Below.size hH18h.out) (fun k hk => Nat.le_trans hz5b (ItemSl.own_lt HO12.out k hk).1))
            have HO17 := hide hown17
            clear hown17 hgrow17
            refine hK.out _ _ HS17.out (fun hH21 => ?_)
            clear hK K
            try simp only [Act.put, List.setIfInBounds_toArray, List.set_cons_zero, List.set_cons_succ]
            have hH21h := hide (show Below w4.heap.size w4 _ from hH21)
            clear hH21
            refine wpAnyH_ready (rs := [22]) (by kernel_rfl) (by simp) ?_
            refine AllReadyH.cons (o := { dst := some 44, op := Op.call { callee := Callee.value (Operand.func 10), args := #[Operand.tmp 43], argTypes := #[31] }, type := 4, pos := "laws.go:102", after := #[{ on := 21, ground := Ground.data }, { on := 21, ground := Ground.chain }, { on := 15, ground := Ground.guard }], guard := some (15, true) }) rfl (fun K hK => ?_) (AllReadyH.nil)
            go_simp
            go_at_call 10
            refine (implItemsValid_at _ _ _ _ _ _ (by simp) HWR HO17.out.itemsAt (by first | omega | simp) HPW.out).mono ?_
            rintro e w19 ⟨rfl, hB19⟩
            have HS19 := hide (next hH21h.out hB19)
            clear hB19
            go_wp2_with fail
            refine hK.out _ _ HS19.out (fun hH22 => ?_)
            clear hK K
            try simp only [Act.put, List.setIfInBounds_toArray, List.set_cons_zero, List.set_cons_succ]
            have hH22h := hide (show Below w4.heap.size w4 _ from hH22)
            clear hH22
            refine wpAnyH_take (i := 23) (oi := { dst := some 45, op := Op.unOp UnOp.not 4 (Operand.tmp 44), type := 4, pos := "laws.go:102", after := #[{ on := 22, ground := Ground.data }, { on := 15, ground := Ground.guard }], guard := some (15, true) }) (v := ?v288) rfl (by kernel_rfl) (by kernel_rfl) (by kernel_rfl) (fun _ _ _ h => h) (Or.inl ⟨by rfl, ?hy288⟩) hH22h.out ?rest288
            case hy288 => (intro w9 hS9; go_simp; (try with_reducible rfl))
            simp only [Act.put, List.setIfInBounds_toArray, List.set_cons_zero, List.set_cons_succ]
            refine wpAnyH_take (i := 24) (oi := { dst := some 46, op := Op.pick (Operand.tmp 37) (Operand.tmp 45) (Operand.const (Value.bool false)), type := 4, pos := "laws.go:102", after := #[{ on := 15, ground := Ground.data }, { on := 23, ground := Ground.data }], guard := none }) (v := ?v289) rfl (by kernel_rfl) (by kernel_rfl) (by kernel_rfl) (fun _ _ _ h => h) (Or.inl ⟨by rfl, ?hy289⟩) hH22h.out ?rest289
            case hy289 => (intro w9 hS9; go_simp; (try with_reducible rfl))
            simp only [Act.put, List.setIfInBounds_toArray, List.set_cons_zero, List.set_cons_succ]
            refine wpAnyH_take (i := 25) (oi := { dst := some 47, op := Op.move (Operand.tmp 46), type := 4, pos := "laws.go:102", after := #[{ on := 24, ground := Ground.data }, { on := 22, ground := Ground.chain }], guard := none }) (v := ?v290) rfl (by kernel_rfl) (by kernel_rfl) (by kernel_rfl) (fun _ _ _ h => h) (Or.inl ⟨by rfl, ?hy290⟩) hH22h.out ?rest290
            case hy290 => (intro w9 hS9; go_simp; (try with_reducible rfl))
            simp only [Act.put, List.setIfInBounds_toArray, List.set_cons_zero, List.set_cons_succ]
            refine wpAnyH_ready (rs := [26]) (by kernel_rfl) (by simp) ?_
            refine AllReadyH.cons (o := { dst := some 48, op := Op.call { callee := Callee.value (Operand.func 10), args := #[Operand.const (Value.slice none 0 0)], argTypes := #[31] }, type := 4, pos := "laws.go:102", after := #[{ on := 25, ground := Ground.chain }, { on := 25, ground := Ground.guard }], guard := some (25, true) }) rfl (fun K hK => ?_) (AllReadyH.nil)
            go_simp
            go_at_call 10
            refine (implItemsValid_at none 0 0 [] true _ rfl (hide rfl) (fun i x hx => by simp at hx) (by omega) (fun x hx => by simp at hx)).mono ?_
            rintro e w20 ⟨rfl, hB20⟩
            have HS20 := hide (next hH22h.out hB20)
            clear hB20
            go_wp2_with fail
            refine hK.out _ _ HS20.out (fun hH26 => ?_)
            clear hK K
            try simp only [Act.put, List.setIfInBounds_toArray, List.set_cons_zero, List.set_cons_succ]
            have hH26h := hide (show Below w4.heap.size w4 _ from hH26)
            clear hH26
            refine wpAnyH_take (i := 27) (oi := { dst := some 49, op := Op.pick (Operand.tmp 47) (Operand.tmp 48) (Operand.const (Value.bool false)), type := 4, pos := "laws.go:102", after := #[{ on := 25, ground := Ground.data }, { on := 26, ground := Ground.data }], guard := none }) (v := ?v291) rfl (by kernel_rfl) (by kernel_rfl) (by kernel_rfl) (fun _ _ _ h => h) (Or.inl ⟨by rfl, ?hy291⟩) hH26h.out ?rest291
            case hy291 => (intro w9 hS9; go_simp; (try with_reducible rfl))
            simp only [Act.put, List.setIfInBounds_toArray, List.set_cons_zero, List.set_cons_succ]
            refine wpAnyH_take (i := 28) (oi := { dst := some 50, op := Op.move (Operand.tmp 49), type := 4, pos := "laws.go:102", after := #[{ on := 27, ground := Ground.data }, { on := 26, ground := Ground.chain }], guard := none }) (v := ?v292) rfl (by kernel_rfl) (by kernel_rfl) (by kernel_rfl) (fun _ _ _ h => h) (Or.inl ⟨by rfl, ?hy292⟩) hH26h.out ?rest292
            case hy292 => (intro w9 hS9; go_simp; (try with_reducible rfl))
            simp only [Act.put, List.setIfInBounds_toArray, List.set_cons_zero, List.set_cons_succ]
            refine wpAnyH_ready (rs := [29]) (by kernel_rfl) (by simp) ?_
            refine AllReadyH.cons (o := { dst := some 51, op := Op.call { callee := Callee.value (Operand.func 8), args := #[], argTypes := #[] }, type := 4, pos := "laws.go:102", after := #[{ on := 28, ground := Ground.chain }, { on := 28, ground := Ground.guard }], guard := some (28, true) }) rfl (fun K hK => ?_) (AllReadyH.nil)
            go_simp
            go_at_call 8
            refine (alive_any _).mono ?_
            rintro e w6 ⟨rfl, hB6⟩
            have HB6 := hide (next hH26h.out hB6)
            clear hB6
            go_wp2_with fail
            refine hK.out _ _ HB6.out (fun hH29 => ?_)
            clear hK K
            try simp only [Act.put, List.setIfInBounds_toArray, List.set_cons_zero, List.set_cons_succ]
            have hH29h := hide (show Below w4.heap.size w4 _ from hH29)
            clear hH29
            refine wpAnyH_take (i := 30) (oi := { dst := some 52, op := Op.pick (Operand.tmp 50) (Operand.tmp 51) (Operand.const (Value.bool false)), type := 4, pos := "laws.go:102", after := #[{ on := 28, ground := Ground.data }, { on := 29, ground := Ground.data }], guard := none }) (v := ?v293) rfl (by kernel_rfl) (by kernel_rfl) (by kernel_rfl) (fun _ _ _ h => h) (Or.inl ⟨by rfl, ?hy293⟩) hH29h.out ?rest293
            case hy293 => (intro w9 hS9; go_simp; (try with_reducible rfl))
            simp only [Act.put, List.setIfInBounds_toArray, List.set_cons_zero, List.set_cons_succ]
            refine wpAnyH_take (i := 31) (oi := { dst := some 2, op := Op.assign (Operand.tmp 52), type := 4, pos := "laws.go:102", after := #[{ on := 30, ground := Ground.data }, { on := 29, ground := Ground.chain }, { on := 0, ground := Ground.phase }, { on := 1, ground := Ground.phase }, { on := 2, ground := Ground.phase }, { on := 3, ground := Ground.phase }, { on := 4, ground := Ground.phase }, { on := 5, ground := Ground.phase }, { on := 6, ground := Ground.phase }, { on := 7, ground := Ground.phase }, { on := 8, ground := Ground.phase }, { on := 9, ground := Ground.phase }, { on := 10, ground := Ground.phase }, { on := 11, ground := Ground.phase }, { on := 12, ground := Ground.phase }, { on := 13, ground := Ground.phase }, { on := 14, ground := Ground.phase }, { on := 15, ground := Ground.phase }, { on := 16, ground := Ground.phase }, { on := 17, ground := Ground.phase }, { on := 18, ground := Ground.phase }, { on := 19, ground := Ground.phase }, { on := 20, ground := Ground.phase }, { on := 21, ground := Ground.phase }, { on := 22, ground := Ground.phase }, { on := 23, ground := Ground.phase }, { on := 24, ground := Ground.phase }, { on := 25, ground := Ground.phase }, { on := 26, ground := Ground.phase }, { on := 27, ground := Ground.phase }, { on := 28, ground := Ground.phase }, { on := 29, ground := Ground.phase }, { on := 30, ground := Ground.phase }], guard := none }) (v := ?v294) rfl (by kernel_rfl) (by kernel_rfl) (by kernel_rfl) (fun _ _ _ h => h) (Or.inl ⟨by rfl, ?hy294⟩) hH29h.out ?rest294
            case hy294 => (intro w9 hS9; go_simp; (try with_reducible rfl))
            simp only [Act.put, List.setIfInBounds_toArray, List.set_cons_zero, List.set_cons_succ]
            refine wpAnyH_done (by kernel_rfl) ?_ _
            refine NoPanic.normal ?_
            go_wp2_with fail
            go_ret
            exact ⟨rfl, next hb4 HB6.out⟩
end Go.Proofs.YtljphnikapddpaaDoor
