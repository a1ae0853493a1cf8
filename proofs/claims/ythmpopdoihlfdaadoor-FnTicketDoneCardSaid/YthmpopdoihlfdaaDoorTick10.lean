/- WorkRun: contracts of the program and of the reference model.
   Conditions: lists have at most 1048576 elements; the two tables hold what the source says. -/
import Derived.Test.YthmpopdoihlfdaaDoorTick9
namespace Go.Proofs.YthmpopdoihlfdaaDoor
open Go.RowKit Go.ChangeShapes Go.WideShapes Go.ChangeAt Go.Deep

def runGo : Nat → List (List Order) → List (List Order) × Nat
  | 0, l => (l, 0)
  | n + 1, l => if (workStepL l).2 = true then ((runGo n (workStepL l).1).1, (runGo n (workStepL l).1).2 + 1) else (l, 0)
def workRunL (l : List (List Order)) (most : Int) : List (List Order) × Int :=
  if (kitchenOkL l && inR most 0 99) = true then ((runGo most.toNat l).1, ((runGo most.toNat l).2 : Int)) else ([], 0)
theorem kitchenOk_rows {l : List (List Order)} (h : kitchenOkL l = true) : l.length ≤ 1048576 ∧ ∀ x ∈ l, x.length ≤ 1048576 :=
  ⟨Nat.le_trans (kitchenOk_len h) (by omega), fun x hx => Nat.le_trans (ticketOk_len (kitchenOk_at h hx)) (by omega)⟩
theorem runGo_ok : ∀ (n : Nat) {l : List (List Order)}, kitchenOkL l = true → kitchenOkL (runGo n l).1 = true
  | 0, l, h => h
  | n + 1, l, h => by
    rw [runGo]
    split
    · exact runGo_ok n (workStep_ok h)
    · exact h
theorem runGo_le : ∀ (n : Nat) (l : List (List Order)), (runGo n l).2 ≤ n
  | 0, l => Nat.le_refl _
  | n + 1, l => by
    rw [runGo]
    split
    · have := runGo_le n (workStepL l).1
      simp only
      omega
    · simp
theorem workRun_rows (l : List (List Order)) (m : Int) : (workRunL l m).1.length ≤ 1048576 ∧ ∀ x ∈ (workRunL l m).1, x.length ≤ 1048576 := by
  unfold workRunL
  split
  · rename_i h
    rw [Bool.and_eq_true] at h
    exact kitchenOk_rows (runGo_ok _ h.1)
  · simp
theorem workStep_rows (l : List (List Order)) : (workStepL l).1.length ≤ 1048576 ∧ ∀ x ∈ (workStepL l).1, x.length ≤ 1048576 := by
  cases h : kitchenOkL l with
  | true => exact kitchenOk_rows (workStep_ok h)
  | false =>
    unfold workStepL
    rw [h]
    simp

set_option maxHeartbeats 2000000 in
theorem implWorkRun_any (A : Option Addr) (c : Nat) (l : List (List Order)) (most : Int) (w : World) (hA : TicksAt w A l) (hl : l.length ≤ 1048576) (hp : ∀ x ∈ l, x.length ≤ 1048576) (hTP : PiecesAt w) (hTN : NextAt w) :
    Calls Tryd.prog 51 #[.slice A l.length c, .int .i64 most] w fun e w' => ∃ u, e = .returned (.tuple #[u, .int .i64 (workRunL l most).2]) ∧ TickSl w' w.heap.size u (workRunL l most).1 ∧ Below w.heap.size w w' := by
  have HP := hide hp
  clear hp
  cases hv : kitchenOkL l with
  | false =>
    have HV := hide hv
    have HR : Hid (workRunL l most = ([], 0)) := hide (by unfold workRunL; rw [hv]; rfl)
    clear hv
    rw [HR.out]
    go_enter Tryd.func51, Tryd.ntmps51
    go_wp2_with fail
    refine (implKitchenValid_any _ _ _ _ hA hl HP.out hTP).mono ?_
    rintro e w1 ⟨rfl, hB1⟩
    rw [HV.out]
    go_wp2_with fail
    refine bodyPost_ret (results_tmp2 rfl _ _ _) rfl ⟨.slice none 0 0, rfl, ⟨[], World.ownsRow_nil _ _ _ _, fun i x hx => by simp at hx, fun i j u u' k _ hu => by simp at hu⟩, hB1⟩
  | true =>
    have HV := hide hv
    cases hm : inR most 0 99 with
    | false =>
      have HM := hide hm
      have HR : Hid (workRunL l most = ([], 0)) := hide (by unfold workRunL; rw [hm]; simp)
      clear hv hm
      rw [HR.out]
      go_enter Tryd.func51, Tryd.ntmps51
      go_wp2_with fail
      refine (implKitchenValid_any _ _ _ _ hA hl HP.out hTP).mono ?_
      rintro e w1 ⟨rfl, hB1⟩
      rw [HV.out]
      go_wp2_with fail
      refine (inRange_is _ _ _ _ HM _).mono ?_
      rintro e w' ⟨rfl, rfl⟩
      go_wp2_with fail
      refine bodyPost_ret (results_tmp2 rfl _ _ _) rfl ⟨.slice none 0 0, rfl, ⟨[], World.ownsRow_nil _ _ _ _, fun i x hx => by simp at hx, fun i j u u' k _ hu => by simp at hu⟩, hB1⟩
    | true =>
      have HM := hide hm
      obtain ⟨n, rfl⟩ : ∃ n : Nat, most = n := ⟨most.toNat, by have := inR_iff.1 hm; omega⟩
      have hn99 : n ≤ 99 := by have := inR_iff.1 hm; omega
      have HR : Hid (workRunL l n = ((runGo n l).1, ((runGo n l).2 : Int))) := hide (by unfold workRunL; rw [hv, hm]; rfl)
      clear hv hm
      rw [HR.out]
      go_enter Tryd.func51, Tryd.ntmps51
      go_wp2_with fail
      refine (implKitchenValid_any _ _ _ _ hA hl HP.out hTP).mono ?_
      rintro e w1 ⟨rfl, hB1⟩
      rw [HV.out]
      go_wp2_with fail
      refine (inRange_is _ _ _ _ HM _).mono ?_
      rintro e w' ⟨rfl, rfl⟩
      go_wp2_with fail
      refine (copyKitchen_any _ _ _ _ (hA.below hB1) hl HP.out).mono ?_
      rintro e w2 ⟨rfl, hS, hB2⟩
      have hb2 := next hB1 hB2
      have HS2 := hide (hS.mono hB1.size)
      clear hS
      go_wp2_with fail
      go_loopw [6, 21] (fun nv i wr => ∃ (d : Nat) (cur : List (List Order)), d ≤ n ∧ i = .int .i64 d ∧ TickSl wr w.heap.size nv cur ∧ Hid (kitchenOkL cur = true) ∧ Hid ((runGo n l).1 = (runGo (n - d) cur).1 ∧ (runGo n l).2 = d + (runGo (n - d) cur).2) ∧ Below w.heap.size w wr) (fun _ i _ => n - (intOf i).toNat)
      case atStart => exact ⟨0, l, Nat.zero_le _, rfl, HS2.out, HV, hide ⟨rfl, by simp⟩, hb2⟩
      case round =>
        clear HS2 hb2
        obtain ⟨d, cur, hd, rfl, hS, HC, HG, hb⟩ := hrel
        have hsz := hb.size
        obtain ⟨hcl, hcp⟩ := kitchenOk_rows HC.out
        have HCP := hide hcp
        clear hcp
        by_cases hlt : d < n
        · have hz : (0 : Int) ≤ d := by omega
          have hz2 : (d : Int) < n := by omega
          obtain ⟨A4, c4, rfl, hI⟩ := hS.form
          have HS := hide hS
          have HI := hide hI
          have HTP := hide (hTP.below hb)
          have HTN := hide (hTN.below hb)
          clear hS hI
          cases hok : (workStepL cur).2 with
          | false =>
            have HO := hide hok
            have HE : Hid (((runGo n l).1 = cur) ∧ ((runGo n l).2 : Int) = (d : Int)) := hide (by
              have := HG.out
              rw [show n - d = (n - d - 1) + 1 from by omega, runGo, hok] at this
              exact ⟨this.1, by rw [this.2]; simp⟩)
            clear hok
            go_wp2_with fail
            refine (implWorkStep_any _ _ _ _ HI.out hcl HCP.out HTP.out HTN.out).mono ?_
            rintro e w3 ⟨u, rfl, -, hB⟩
            rw [HO.out]
            have hb3 := next hb hB
            have HS3 := hide (HS.out.below hB)
            go_wp2_with fail
            refine bodyPost_ret (results_tmp2 rfl _ _ _) rfl ⟨_, by rw [HE.out.2]; rfl, by rw [HE.out.1]; exact HS3.out, hb3⟩
          | true =>
            have HO := hide hok
            have HG2 : Hid ((runGo n l).1 = (runGo (n - (d + 1)) (workStepL cur).1).1 ∧ (runGo n l).2 = d + 1 + (runGo (n - (d + 1)) (workStepL cur).1).2) := hide (by
              have := HG.out
              rw [show n - d = (n - (d + 1)) + 1 from by omega, runGo, hok] at this
              simp only [if_true] at this
              exact ⟨this.1, by rw [this.2]; omega⟩)
            have HC2 := hide (workStep_ok HC.out)
            clear hok
            go_wp2_with fail
            refine (implWorkStep_any _ _ _ _ HI.out hcl HCP.out HTP.out HTN.out).mono ?_
            rintro e w3 ⟨u, rfl, hU, hB⟩
            rw [HO.out]
            have hb3 := next hb hB
            have HU := hide (hU.mono hsz)
            clear hU
            go_wp2_with fail
            go_roundw
            case rel => exact ⟨d + 1, (workStepL cur).1, hlt, by go_num, HU.out, HC2, HG2, hb3⟩
            case measure => simp [intOf]; omega
        · have hdn : d = n := by omega
          subst hdn
          have HE : Hid (((runGo d l).1 = cur) ∧ ((runGo d l).2 : Int) = (d : Int)) := hide (by
            have := HG.out
            rw [Nat.sub_self] at this
            exact ⟨this.1, by rw [this.2]; simp [runGo]⟩)
          have HS := hide hS
          clear hS
          go_wp2_with fail
          refine bodyPost_ret (results_tmp2 rfl _ _ _) rfl ⟨_, by rw [HE.out.2]; rfl, by rw [HE.out.1]; exact HS.out, hb⟩

set_option maxHeartbeats 2000000 in
theorem specWorkRun_any (A : Option Addr) (c : Nat) (l : List (List Order)) (most : Int) (w : World) (hA : TicksAt w A l) (hl : l.length ≤ 1048576) (hp : ∀ x ∈ l, x.length ≤ 1048576) :
    Calls Tryd.prog 52 #[.slice A l.length c, .int .i64 most] w fun e w' => ∃ u, e = .returned (.tuple #[u, .int .i64 (workRunL l most).2]) ∧ TickSl w' w.heap.size u (workRunL l most).1 ∧ Below w.heap.size w w' := by
  have HP := hide hp
  clear hp
  cases hv : kitchenOkL l with
  | false =>
    have HV := hide hv
    have HR : Hid (workRunL l most = ([], 0)) := hide (by unfold workRunL; rw [hv]; rfl)
    clear hv
    rw [HR.out]
    go_enter Tryd.func52, Tryd.ntmps52
    go_wp2_with fail
    refine (specKitchenValid_any _ _ _ _ hA hl HP.out).mono ?_
    rintro e w1 ⟨rfl, hB1⟩
    rw [HV.out]
    have HE := hide (TickSl.empty_lit w1 hB1.size)
    have hsz1 := hB1.size
    go_wp2_with fail
    refine bodyPost_ret (results_tmp2 rfl _ _ _) rfl ⟨_, rfl, HE.out, by go_grown⟩
  | true =>
    have HV := hide hv
    cases hm : inR most 0 99 with
    | false =>
      have HM := hide hm
      have HR : Hid (workRunL l most = ([], 0)) := hide (by unfold workRunL; rw [hm]; simp)
      clear hv hm
      rw [HR.out]
      go_enter Tryd.func52, Tryd.ntmps52
      go_wp2_with fail
      refine (specKitchenValid_any _ _ _ _ hA hl HP.out).mono ?_
      rintro e w1 ⟨rfl, hB1⟩
      rw [HV.out]
      go_wp2_with fail
      refine (l1In_is _ _ _ _ HM _).mono ?_
      rintro e w' ⟨rfl, rfl⟩
      have HE := hide (TickSl.empty_lit w' hB1.size)
      have hsz1 := hB1.size
      go_wp2_with fail
      refine bodyPost_ret (results_tmp2 rfl _ _ _) rfl ⟨_, rfl, HE.out, by go_grown⟩
    | true =>
      have HM := hide hm
      obtain ⟨n, rfl⟩ : ∃ n : Nat, most = n := ⟨most.toNat, by have := inR_iff.1 hm; omega⟩
      have hn99 : n ≤ 99 := by have := inR_iff.1 hm; omega
      have HR : Hid (workRunL l n = ((runGo n l).1, ((runGo n l).2 : Int))) := hide (by unfold workRunL; rw [hv, hm]; rfl)
      clear hv hm
      rw [HR.out]
      go_enter Tryd.func52, Tryd.ntmps52
      go_wp2_with fail
      refine (specKitchenValid_any _ _ _ _ hA hl HP.out).mono ?_
      rintro e w1 ⟨rfl, hB1⟩
      rw [HV.out]
      go_wp2_with fail
      refine (l1In_is _ _ _ _ HM _).mono ?_
      rintro e w' ⟨rfl, rfl⟩
      go_wp2_with fail
      refine (l4Copy_any _ _ _ _ (hA.below hB1) hl HP.out).mono ?_
      rintro e w2 ⟨ov, rfl, hS, hB2⟩
      have hb2 := next hB1 hB2
      have HS2 := hide (hS.mono hB1.size)
      clear hS
      go_wp2_with fail
      go_loopw [6, 7] (fun nv i wr => ∃ (d : Nat) (cur : List (List Order)), d ≤ n ∧ i = .int .i64 d ∧ TickSl wr w.heap.size nv cur ∧ Hid (kitchenOkL cur = true) ∧ Hid ((runGo n l).1 = (runGo (n - d) cur).1 ∧ (runGo n l).2 = d + (runGo (n - d) cur).2) ∧ Below w.heap.size w wr) (fun _ i _ => n - (intOf i).toNat)
      case atStart => exact ⟨0, l, Nat.zero_le _, rfl, HS2.out, HV, hide ⟨rfl, by simp⟩, hb2⟩
      case round =>
        clear HS2 hb2
        obtain ⟨d, cur, hd, rfl, hS, HC, HG, hb⟩ := hrel
        have hsz := hb.size
        obtain ⟨hcl, hcp⟩ := kitchenOk_rows HC.out
        have HCP := hide hcp
        clear hcp
        by_cases hlt : d < n
        · have hz : (0 : Int) ≤ d := by omega
          have hz2 : (d : Int) < n := by omega
          obtain ⟨A4, c4, rfl, hI⟩ := hS.form
          have HS := hide hS
          have HI := hide hI
          clear hS hI
          cases hok : (workStepL cur).2 with
          | false =>
            have HO := hide hok
            have HE : Hid (((runGo n l).1 = cur) ∧ ((runGo n l).2 : Int) = (d : Int)) := hide (by
              have := HG.out
              rw [show n - d = (n - d - 1) + 1 from by omega, runGo, hok] at this
              exact ⟨this.1, by rw [this.2]; simp⟩)
            clear hok
            go_wp2_with fail
            refine (specWorkStep_any _ _ _ _ HI.out hcl HCP.out).mono ?_
            rintro e w3 ⟨u, rfl, -, hB⟩
            rw [HO.out]
            have hb3 := next hb hB
            have HS3 := hide (HS.out.below hB)
            go_wp2_with fail
            refine bodyPost_ret (results_tmp2 rfl _ _ _) rfl ⟨_, by rw [HE.out.2]; rfl, by rw [HE.out.1]; exact HS3.out, hb3⟩
          | true =>
            have HO := hide hok
            have HG2 : Hid ((runGo n l).1 = (runGo (n - (d + 1)) (workStepL cur).1).1 ∧ (runGo n l).2 = d + 1 + (runGo (n - (d + 1)) (workStepL cur).1).2) := hide (by
              have := HG.out
              rw [show n - d = (n - (d + 1)) + 1 from by omega, runGo, hok] at this
              simp only [if_true] at this
              exact ⟨this.1, by rw [this.2]; omega⟩)
            have HC2 := hide (workStep_ok HC.out)
            clear hok
            go_wp2_with fail
            refine (specWorkStep_any _ _ _ _ HI.out hcl HCP.out).mono ?_
            rintro e w3 ⟨u, rfl, hU, hB⟩
            rw [HO.out]
            have hb3 := next hb hB
            have HU := hide (hU.mono hsz)
            clear hU
            go_wp2_with fail
            go_roundw
            case rel => exact ⟨d + 1, (workStepL cur).1, hlt, by go_num, HU.out, HC2, HG2, hb3⟩
            case measure => simp [intOf]; omega
        · have hdn : d = n := by omega
          subst hdn
          have HE : Hid (((runGo d l).1 = cur) ∧ ((runGo d l).2 : Int) = (d : Int)) := hide (by
            have := HG.out
            rw [Nat.sub_self] at this
            exact ⟨this.1, by rw [this.2]; simp [runGo]⟩)
          have HS := hide hS
          have hz2 : ¬ (d : Int) < d := by omega
          clear hS
          go_wp2_with fail
          refine bodyPost_ret (results_tmp2 rfl _ _ _) rfl ⟨_, by rw [HE.out.2]; rfl, by rw [HE.out.1]; exact HS.out, hb⟩
end Go.Proofs.YthmpopdoihlfdaaDoor
