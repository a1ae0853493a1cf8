/- For all drawn bytes the law of TasksValid answers true, and its argument reads as it did.
   Conditions: none. -/
import Derived.Test.YtljphnikapddpaaDoorLawKit
import Derived.Test.YtljphnikapddpaaDoorDrawTasks
import Derived.Test.YtljphnikapddpaaDoorTaskMath
namespace Go.Proofs.YtljphnikapddpaaDoor
open Go.RowKit Go.ChangeShapes Go.WideShapes Go.ChangeAt Go.Deep

theorem implTasksValid_at (A : Option Addr) (c n : Nat) (l : List Task) (b : Bool) (w : World) (hn : l.length = n) (hb : Hid (tasksOk l = b)) (hA : TasksAt w A l) (hl : n ≤ 1048576) (hp : ∀ x ∈ l, x.after.length ≤ 1048576) :
    Calls Tryd.prog 6 #[.slice A n c] w fun e w' => e = .returned (.bool b) ∧ Below w.heap.size w w' := by
  subst hn
  have := implTasksValid_any A c l w hA hl hp
  rwa [hb.out] at this
theorem specTasksValid_at (A : Option Addr) (c n : Nat) (l : List Task) (b : Bool) (w : World) (hn : l.length = n) (hb : Hid (tasksOk l = b)) (hA : TasksAt w A l) (hl : n ≤ 1048576) (hp : ∀ x ∈ l, x.after.length ≤ 1048576) :
    Calls Tryd.prog 7 #[.slice A n c] w fun e w' => e = .returned (.bool b) ∧ Below w.heap.size w w' := by
  subst hn
  have := specTasksValid_any A c l w hA hl hp
  rwa [hb.out] at this
theorem tasks_wrong (l : List Task) : tasksOk (l ++ [⟨0, [(l.length : Int)]⟩]) = false := by
  cases h : tasksOk (l ++ [⟨0, [(l.length : Int)]⟩]) with
  | false => rfl
  | true =>
    have := (tasksOk_at h (i := l.length) (x := ⟨0, [(l.length : Int)]⟩) (by simp)).2 (l.length : Int) (by simp)
    omega
theorem aft_lit {W : World} {g : Nat} {a : Int} (hg : W.heap[g]? = some (Obj.cells #[.int .i64 a] 3 (0, 0))) : Aft W (.slice (some ⟨g, 0, none⟩) 1 1) [a] :=
  Aft.of_sl (lo := 0) ⟨rfl, .inr ⟨g, 1, _, rfl, Nat.zero_le _, hg, Nat.le_refl _, by unfold maxLen; omega, rfl, rfl⟩⟩

def DrawnTkS (w : World) (e : Ending) (w' : World) : Prop := ∃ (ps : List (Task × Value)) (g c lo : Nat), e = .returned (.slice (some ⟨g, 0, none⟩) ps.length c) ∧
  TaskSl w' lo (.slice (some ⟨g, 0, none⟩) ps.length c) ps ∧ ps.length ≤ 8 ∧ (∀ p ∈ ps, p.1.after.length ≤ 8) ∧ Below w.heap.size w w'
set_option maxHeartbeats 1000000 in
theorem drawTasksValid_any (A : Option Addr) (c m : Nat) (w : World) (hB : BytesIn w A m) (hm : m ≤ 9223372036854775807) (hc : m ≤ c) (hc2 : c ≤ 9223372036854775807) :
    Calls Tryd.prog 5 #[.slice A m c] w (DrawnTkS w) := by
  go_enter Tryd.func5, Tryd.ntmps5
  go_wp2_with fail
  refine (open_any A c m w hB hm hc hc2).mono ?_
  rintro e w1 ⟨rfl, hR1, hb1⟩
  go_wp2_with fail
  refine (l20Tasks_any w.heap.size 0 2 _ hR1 (by omega) (by omega)).mono ?_
  rintro e w2 ⟨ps, g, c2, rfl, hS, hl, hle, -, hg⟩
  have hb2 := hb1.grown hg hb1.size (fun j hj => by injection hj with hj; omega)
  have HS := hide hS
  have HLE := hide hle
  clear hS hle hg
  go_wp2_with fail
  refine bodyPost_ret (results_tmp rfl _ _ _) rfl ⟨ps, g, c2, _, rfl, HS.out, hl, HLE.out, hb2⟩

theorem TaskSl.tasksAt {w : World} {lo n c g : Nat} {ps : List (Task × Value)} (h : TaskSl w lo (.slice (some ⟨g, 0, none⟩) n c) ps) : TasksAt w (some ⟨g, 0, none⟩) (ps.map Prod.fst) := by
  obtain ⟨A, c', e, hA⟩ := h.form
  injection e with e1
  subst e1
  exact hA

set_option maxRecDepth 100000 in
set_option maxHeartbeats 4000000 in
theorem lawTasksValid_any (A : Option Addr) (c m : Nat) (w : World) (hB : BytesIn w A m) (hc : m ≤ c) (hc2 : c ≤ 9223372036854775807) :
    Calls Tryd.prog 3 #[.slice A m c] w fun e w' => e = .returned (.bool true) ∧ Below w.heap.size w w' := by
  by_cases hlen : (1048576 : Int) < m
  · go_enter Tryd.func3, Tryd.ntmps3
    go_wp2_with fail
    go_ret
    exact ⟨rfl, by go_grown⟩
  · go_enter Tryd.func3, Tryd.ntmps3
    go_wp2_with fail
    refine (drawTasksValid_any A c m w hB (by omega) hc hc2).mono ?_
    rintro e w1 ⟨ps, g, c1, lo, rfl, hS, hl8, hle, hb1⟩
    have HS1 := hide hS
    have HLEN : Hid ((ps.map Prod.fst).length = ps.length) := hide (by simp)
    have HP : Hid (∀ x ∈ ps.map Prod.fst, x.after.length ≤ 1048576) := hide (fun x hx => by
      obtain ⟨p, hp, rfl⟩ := List.mem_map.1 hx
      exact Nat.le_trans (hle p hp) (by omega))
    have HP2 : Hid (∀ x ∈ (ps ++ [((⟨0, [(ps.length : Int)]⟩ : Task), Value.slice none 0 0)]).map Prod.fst, x.after.length ≤ 1048576) := hide (fun x hx => by
      rw [List.map_append] at hx
      rcases List.mem_append.1 hx with hx | hx
      · exact HP.out x hx
      · obtain rfl : x = ⟨0, [(ps.length : Int)]⟩ := by simpa using hx
        simp)
    have HW : Hid (∀ u : Value, tasksOk ((ps ++ [((⟨0, [(ps.length : Int)]⟩ : Task), u)]).map Prod.fst) = false) := hide (fun u => by
      rw [List.map_append]
      have := tasks_wrong (ps.map Prod.fst)
      rw [HLEN.out] at this
      exact this)
    have HPW : Hid (∀ u : Value, ∀ x ∈ (ps ++ [((⟨0, [(ps.length : Int)]⟩ : Task), u)]).map Prod.fst, x.after.length ≤ 1048576) := hide (fun u x hx => HP2.out x (by rw [List.map_append] at hx ⊢; exact hx))
    clear hS hle
    obtain ⟨v, HV⟩ : ∃ v, Hid (tasksOk (ps.map Prod.fst) = v) := ⟨_, hide rfl⟩
    have hbb : (v != v) = false := by simp
    have hcap := TaskSl.cap HS1.out
    have hc9 : c1 ≤ 9223372036854775807 := by have := hcap.2.2.1; unfold maxLen at this; omega
    have hlc := hcap.2.1
    clear hcap
    go_wp2_with fail
    refine (implTasksValid_at _ _ _ _ _ _ HLEN.out HV HS1.out.tasksAt (by omega) HP.out).mono ?_
    rintro e w2 ⟨rfl, hB2⟩
    have hb2 := next hb1 hB2
    have HS2 := hide (HS1.out.below hB2)
    clear hB2 HS1
    go_wp2_with fail
    refine (specTasksValid_at _ _ _ _ _ _ HLEN.out HV HS2.out.tasksAt (by omega) HP.out).mono ?_
    rintro e w3 ⟨rfl, hB3⟩
    have hb3 := next hb2 hB3
    have HS3 := hide (HS2.out.below hB3)
    clear hB3 HS2
    cases v with
    | false =>
      have hzb := hb3.size
      have HOE : Hid (TaskSl (w3.alloc (.cells #[] 28)) w3.heap.size (.slice (some ⟨w3.heap.size, 0, none⟩) 0 0) []) := hide ⟨World.ownsRow_lit w3 #[] 0 (Nat.le_refl _) (by unfold maxLen; omega) rfl, fun p hp => by simp at hp⟩
      have HSE := hide (HS3.out.below (w' := w3.alloc (.cells #[] 28)) ((Below.refl _ _).alloc (Nat.le_refl _) _))
      go_wp2_with (first | (at_builtin; refine wpList_wantedI (by rfl) (wp_push_task _ _ (by rfl) w3.heap.size (.slice (some ⟨g6, 0, none⟩) ps.length cap6) ps (by rfl) ((HO6.out.below ((Below.refl _ _).alloc (Nat.le_refl _) _)).below ((Below.refl _ _).alloc (Nat.le_refl _) _)) (w6.heap.size + 1) (⟨0, [(ps.length : Int)]⟩, .slice (some ⟨w6.heap.size, 0, none⟩) 1 1) (by rfl) (heap_twoI w6 _ _) (aft_lit ((heap_alloc_old _ _ (by simp)).trans (heap_alloc_new w6 _))) (by omega) (by simp; omega) ?_); intro g7 cap7 w7 hown7 hgrow7; have HO7 := hide hown7; have hb7 : Below w3.heap.size w3 w7 := (((hb6.alloc hb6.size _).alloc (by simp; omega) _).grown hgrow7 (by simp; omega) (fun j hj => by have hj : some g6 = some j := hj; injection hj with hj; omega)); clear hown7 hgrow7) | (at_builtin; refine wpList_wantedI (by rfl) (wp_spread_task _ _ (by rfl) w3.heap.size (.slice (some ⟨w3.heap.size, 0, none⟩) 0 0) [] (by rfl) HOE.out (by simp) ⟨g, 0, none⟩ ps.length c1 ps rfl (by rfl) HSE.out.cells HSE.out.2 (by simp; omega) (by simp) ?_); intro g6 cap6 w6 hown6 hgrow6; have HO6 : Hid (TaskSl w6 w3.heap.size (.slice (some ⟨g6, 0, none⟩) ps.length cap6) ps) := hide (by have h := hown6; rw [List.length_nil, Nat.zero_add, List.nil_append] at h; exact h); have hb6 : Below w3.heap.size w3 w6 := ((Below.refl _ _).alloc (Nat.le_refl _) _).grown hgrow6 (by simp) (fun j hj => by have hj : some w3.heap.size = some j := hj; injection hj with hj; omega); have hz6 := hb6.size; have hg6 := (TaskSl.cap HO6.out).2.2.2; simp only [List.length_nil, Nat.zero_add]; clear hown6 hgrow6))
      refine (implTasksValid_at _ _ _ _ _ _ (by simp) (hide (HW.out _)) HO7.out.tasksAt (by omega) (HPW.out _)).mono ?_
      rintro e w8 ⟨rfl, hB8⟩
      have hb8 := next (next hb3 hb7) hB8
      go_wp2_with fail
      refine (alive_any _).mono ?_
      rintro e w9 ⟨rfl, hB9⟩
      go_wp2_with fail
      go_ret
      exact ⟨rfl, next hb8 hB9⟩
    | true =>
      by_cases h0 : ps.length = 0
      · have hl0 : ((ps.length : Int) == 0) = true := by simp [h0]
        have h09 := hide h0
        clear h0
        have hzb := hb3.size
        have HOE : Hid (TaskSl (w3.alloc (.cells #[] 28)) w3.heap.size (.slice (some ⟨w3.heap.size, 0, none⟩) 0 0) []) := hide ⟨World.ownsRow_lit w3 #[] 0 (Nat.le_refl _) (by unfold maxLen; omega) rfl, fun p hp => by simp at hp⟩
        have HSE := hide (HS3.out.below (w' := w3.alloc (.cells #[] 28)) ((Below.refl _ _).alloc (Nat.le_refl _) _))
        go_wp2_with (first | (at_builtin; refine wpList_wantedI (by rfl) (wp_push_task _ _ (by rfl) w3.heap.size (.slice (some ⟨g6, 0, none⟩) ps.length cap6) ps (by rfl) ((HO6.out.below ((Below.refl _ _).alloc (Nat.le_refl _) _)).below ((Below.refl _ _).alloc (Nat.le_refl _) _)) (w6.heap.size + 1) (⟨0, [(ps.length : Int)]⟩, .slice (some ⟨w6.heap.size, 0, none⟩) 1 1) (by rfl) (heap_twoI w6 _ _) (aft_lit ((heap_alloc_old _ _ (by simp)).trans (heap_alloc_new w6 _))) (by omega) (by simp; omega) ?_); intro g7 cap7 w7 hown7 hgrow7; have HO7 := hide hown7; have hb7 : Below w3.heap.size w3 w7 := (((hb6.alloc hb6.size _).alloc (by simp; omega) _).grown hgrow7 (by simp; omega) (fun j hj => by have hj : some g6 = some j := hj; injection hj with hj; omega)); clear hown7 hgrow7) | (at_builtin; refine wpList_wantedI (by rfl) (wp_spread_task _ _ (by rfl) w3.heap.size (.slice (some ⟨w3.heap.size, 0, none⟩) 0 0) [] (by rfl) HOE.out (by simp) ⟨g, 0, none⟩ ps.length c1 ps rfl (by rfl) HSE.out.cells HSE.out.2 (by simp; omega) (by simp) ?_); intro g6 cap6 w6 hown6 hgrow6; have HO6 : Hid (TaskSl w6 w3.heap.size (.slice (some ⟨g6, 0, none⟩) ps.length cap6) ps) := hide (by have h := hown6; rw [List.length_nil, Nat.zero_add, List.nil_append] at h; exact h); have hb6 : Below w3.heap.size w3 w6 := ((Below.refl _ _).alloc (Nat.le_refl _) _).grown hgrow6 (by simp) (fun j hj => by have hj : some w3.heap.size = some j := hj; injection hj with hj; omega); have hz6 := hb6.size; have hg6 := (TaskSl.cap HO6.out).2.2.2; simp only [List.length_nil, Nat.zero_add]; clear hown6 hgrow6))
        refine (implTasksValid_at _ _ _ _ _ _ (by simp) (hide (HW.out _)) HO7.out.tasksAt (by omega) (HPW.out _)).mono ?_
        rintro e w8 ⟨rfl, hB8⟩
        have hb8 := next (next hb3 hb7) hB8
        go_wp2_with fail
        refine (alive_any _).mono ?_
        rintro e w9 ⟨rfl, hB9⟩
        go_wp2_with fail
        go_ret
        exact ⟨rfl, next hb8 hB9⟩
      · have hl0 : ((ps.length : Int) == 0) = false := by simp [h0]
        have hl1 : (0 : Int) < ps.length := by omega
        have hsl : ∀ W, (Instr.slice 23 (.slice (some ⟨g, 0, none⟩) ps.length c1) none (some (.int .i64 ((ps.length : Int) - 1))) none).run Tryd.prog W = .ok (.slice (some ⟨g, 0, none⟩) (ps.length - 1) c1) W := fun W => by
          have ht : Tryd.prog.underlying 23 = some (.slice (Tryd.prog.elem 23)) := rfl
          have hz : (sizeOf (Tryd.prog.elem 23)).run Tryd.prog W = .ok 2 W := by rfl
          rw [run_slice_h W _ _ _ _ ht .i64 ((ps.length : Int) - 1) (by omega) (by omega), hz]
          have : ((ps.length : Int) - 1).toNat = ps.length - 1 := by omega
          simp [Result.andThen, sliced, Addr.add, this]
        have hsl2 : ∀ W, (Instr.sliceAt 23 (.slice (some ⟨g, 0, none⟩) ps.length c1) none (some (.int .i64 ((ps.length : Int) - 1))) none).run Tryd.prog W = .ok (.slice (some ⟨g, 0, none⟩) (ps.length - 1) c1) W := fun W => (run_sliceAt_slice W _ _ _ _ _ rfl).trans (hsl W)
        have HTK : Hid (tasksOk ((ps.map Prod.fst).take (ps.length - 1)) = true) := hide (tasksOk_take HV.out _)
        have HLT : Hid (((ps.map Prod.fst).take (ps.length - 1)).length = ps.length - 1) := hide (by simp)
        go_wp2_with fail
        refine (implTasksValid_at _ _ _ _ _ _ HLT.out HTK (HS3.out.tasksAt.takeT _) (by omega) (fun x hx => HP.out x (List.mem_of_mem_take hx))).mono ?_
        rintro e w4 ⟨rfl, hB4⟩
        have hb4 := next hb3 hB4
        have HS4 := hide (HS3.out.below hB4)
        clear hB4 HS3 h0
        have hzb := hb4.size
        have HOE : Hid (TaskSl (w4.alloc (.cells #[] 28)) w4.heap.size (.slice (some ⟨w4.heap.size, 0, none⟩) 0 0) []) := hide ⟨World.ownsRow_lit w4 #[] 0 (Nat.le_refl _) (by unfold maxLen; omega) rfl, fun p hp => by simp at hp⟩
        have HSE := hide (HS4.out.below (w' := w4.alloc (.cells #[] 28)) ((Below.refl _ _).alloc (Nat.le_refl _) _))
        go_wp2_with (first | (at_builtin; refine wpList_wantedI (by rfl) (wp_push_task _ _ (by rfl) w4.heap.size (.slice (some ⟨g6, 0, none⟩) ps.length cap6) ps (by rfl) ((HO6.out.below ((Below.refl _ _).alloc (Nat.le_refl _) _)).below ((Below.refl _ _).alloc (Nat.le_refl _) _)) (w6.heap.size + 1) (⟨0, [(ps.length : Int)]⟩, .slice (some ⟨w6.heap.size, 0, none⟩) 1 1) (by rfl) (heap_twoI w6 _ _) (aft_lit ((heap_alloc_old _ _ (by simp)).trans (heap_alloc_new w6 _))) (by omega) (by simp; omega) ?_); intro g7 cap7 w7 hown7 hgrow7; have HO7 := hide hown7; have hb7 : Below w4.heap.size w4 w7 := (((hb6.alloc hb6.size _).alloc (by simp; omega) _).grown hgrow7 (by simp; omega) (fun j hj => by have hj : some g6 = some j := hj; injection hj with hj; omega)); clear hown7 hgrow7) | (at_builtin; refine wpList_wantedI (by rfl) (wp_spread_task _ _ (by rfl) w4.heap.size (.slice (some ⟨w4.heap.size, 0, none⟩) 0 0) [] (by rfl) HOE.out (by simp) ⟨g, 0, none⟩ ps.length c1 ps rfl (by rfl) HSE.out.cells HSE.out.2 (by simp; omega) (by simp) ?_); intro g6 cap6 w6 hown6 hgrow6; have HO6 : Hid (TaskSl w6 w4.heap.size (.slice (some ⟨g6, 0, none⟩) ps.length cap6) ps) := hide (by have h := hown6; rw [List.length_nil, Nat.zero_add, List.nil_append] at h; exact h); have hb6 : Below w4.heap.size w4 w6 := ((Below.refl _ _).alloc (Nat.le_refl _) _).grown hgrow6 (by simp) (fun j hj => by have hj : some w4.heap.size = some j := hj; injection hj with hj; omega); have hz6 := hb6.size; have hg6 := (TaskSl.cap HO6.out).2.2.2; simp only [List.length_nil, Nat.zero_add]; clear hown6 hgrow6))
        refine (implTasksValid_at _ _ _ _ _ _ (by simp) (hide (HW.out _)) HO7.out.tasksAt (by omega) (HPW.out _)).mono ?_
        rintro e w8 ⟨rfl, hB8⟩
        have hb8 := next (next hb4 hb7) hB8
        go_wp2_with fail
        refine (alive_any _).mono ?_
        rintro e w9 ⟨rfl, hB9⟩
        go_wp2_with fail
        go_ret
        exact ⟨rfl, next hb8 hB9⟩
end Go.Proofs.YtljphnikapddpaaDoor
