/- Contract of the draw of lots, wants and a day; and of the laws' sum of numbers.
   Conditions: the bounds in each statement. -/
import Derived.Test.YtecmghoklleheaaDoorDrawBoth
import Derived.Test.YtecmghoklleheaaDoorSums
namespace Go.Proofs.YtecmghoklleheaaDoor
open Go.RowKit

set_option maxHeartbeats 400000 in
theorem lawSum_any (A : Option Addr) (c : Nat) (xs : List Int) (w : World) (hA : IntsAt w A xs) (hl : xs.length ≤ 1048576) :
    Calls Tryd.prog 29 #[.slice A xs.length c] w fun e w' => e = .returned (.int .i64 (sumW xs)) ∧ w = w' := by
  go_enter Tryd.func29, Tryd.ntmps29
  go_wp2_with fail
  go_loopw [3, 4] (fun sv i wr => ∃ (k : Nat) (s : Int), k ≤ xs.length ∧ i = .int .i64 k ∧ sv = .int .i64 s ∧ Hid (sumW xs = sumGo s (xs.drop k)) ∧ w = wr) (fun _ i _ => xs.length - (intOf i).toNat)
  case atStart => exact ⟨0, 0, Nat.zero_le _, rfl, rfl, hide rfl, rfl⟩
  case round =>
    obtain ⟨k, s, hk, rfl, rfl, HG, rfl⟩ := hrel
    by_cases hlt : k < xs.length
    · obtain ⟨b, off, rfl, hbl, hc1⟩ := hA k xs[k] (List.getElem?_eq_getElem hlt)
      have HD : Hid (xs.drop k = xs[k] :: xs.drop (k + 1)) := hide (List.drop_eq_getElem_cons hlt)
      generalize xs[k] = p at *
      have H3 : Hid (sumW xs = sumGo (wrap64 (s + p)) (xs.drop (k + 1))) := hide (by rw [HG.out, HD.out, sumGo])
      have hz : (0 : Int) ≤ k := by omega
      have hz2 : (k : Int) < xs.length := by omega
      go_wp2_with fail
      go_roundw
      case rel => exact ⟨k + 1, _, hlt, by go_num, rfl, H3, trivial⟩
      case measure => simp [intOf]; omega
    · have H3 : Hid (sumW xs = s) := hide (by rw [HG.out, List.drop_of_length_le (by omega), sumGo])
      go_wp2_with fail
      go_ret
      exact ⟨by rw [H3.out]; rfl, rfl⟩

def DrewLWD (w : World) (e : Ending) (w' : World) : Prop := ∃ (ls : List Lot) (g c : Nat) (xs : List Int) (h d : Nat) (day : Int), e = .returned (.tuple #[.slice (some ⟨g, 0, none⟩) ls.length c, .slice (some ⟨h, 0, none⟩) xs.length d, .int .i64 day]) ∧
  LotSl w' w.heap.size (.slice (some ⟨g, 0, none⟩) ls.length c) ls ∧ IntSl w' w.heap.size (.slice (some ⟨h, 0, none⟩) xs.length d) xs ∧ ls.length ≤ 6 ∧ xs.length ≤ 7 ∧ -1 ≤ day ∧ day ≤ 7 ∧ Below w.heap.size w w'

set_option maxRecDepth 100000 in
set_option maxHeartbeats 1000000 in
theorem drawUseBound_any (A : Option Addr) (c m : Nat) (w : World) (hB : BytesIn w A m) (hm : m ≤ 9223372036854775807) (hc : m ≤ c) (hc2 : c ≤ 9223372036854775807) :
    Calls Tryd.prog 52 #[.slice A m c] w (DrewLWD w) := by
  go_enter Tryd.func52, Tryd.ntmps52
  go_wp2_with fail
  refine (open_any A c m w hB hm hc hc2).mono ?_
  rintro e w1 ⟨rfl, hR1, hb1⟩
  have hz1 := hb1.size
  have hlt1 := hR1.lt
  go_wp2_with fail
  refine (l20Both_any w.heap.size 0 _ hR1 (by omega)).mono ?_
  rintro e w2 ⟨ls, g, c2, xs, h, d, rfl, hS2, hT2, hl, hx, hR2, hg2⟩
  have hb2 : Below w.heap.size w w2 := hb1.grown hg2 hz1 (fun j hj => by injection hj with hj; omega)
  have HS2 := hide hS2
  have HT2 := hide hT2
  have hz2 := hb2.size
  clear hS2 hT2 hg2
  go_wp2_with fail
  refine (pick_any w.heap.size _ 9 _ hR2 (by omega) (by omega)).mono ?_
  rintro e w3 ⟨p, rfl, hp0, hp1, hR3, hg3⟩
  have hb3 : Below w.heap.size w w3 := hb2.grown hg3 hz2 (fun j hj => by injection hj with hj; omega)
  have HS3 := hide (ownsRow_mono (LotSl.pick HS2.out hlt1 hg3) hz1)
  have HT3 := hide (ownsRow_mono (IntSl.pick HT2.out hlt1 hg3) hz1)
  have hp8 : p ≤ 8 := by omega
  clear hg3 hR3 hR2 HS2 HT2
  go_wp2_with fail
  refine bodyPost_ret (results_tmp3 rfl _ _ _) rfl ⟨ls, g, c2, xs, h, d, p - 1, rfl, HS3.out, HT3.out, hl, hx, by omega, by omega, hb3⟩
end Go.Proofs.YtecmghoklleheaaDoor
