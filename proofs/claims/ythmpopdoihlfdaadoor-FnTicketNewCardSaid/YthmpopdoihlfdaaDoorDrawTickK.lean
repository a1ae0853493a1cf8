/- What the draw of a ticket leaves, and the draws of chapter 4 that are no more than that.
   Conditions: the bounds in each statement. -/
import Derived.Test.YthmpopdoihlfdaaDoorDrawTick
import Derived.Test.YthmpopdoihlfdaaDoorLawKit
namespace Go.Proofs.YthmpopdoihlfdaaDoor
open Go.RowKit Go.ChangeShapes Go.WideShapes Go.ChangeAt Go.Deep

/-- A ticket, drawn from bytes. -/
def DrawnTick (w : World) (e : Ending) (w' : World) : Prop := ∃ (ls : List Order) (A : Option Addr) (c : Nat), e = .returned (.slice A ls.length c) ∧ OrderSl w' w.heap.size (.slice A ls.length c) ls ∧ ls.length ≤ 7 ∧ Below w.heap.size w w'

set_option maxHeartbeats 1000000 in
theorem drawTicketCourse_any (A : Option Addr) (c m : Nat) (w : World) (hB : BytesIn w A m) (hm : m ≤ 9223372036854775807) (hc : m ≤ c) (hc2 : c ≤ 9223372036854775807) :
    Calls Tryd.prog 33 #[.slice A m c] w (DrawnTick w) := by
  go_enter Tryd.func33, Tryd.ntmps33
  go_wp2_with fail
  refine (open_any A c m w hB hm hc hc2).mono ?_
  rintro e w1 ⟨rfl, hR1, hb1⟩
  have hz1 := hb1.size
  go_wp2_with fail
  refine (l20Ticket_any w.heap.size 0 9 _ hR1 (by omega) (by omega)).mono ?_
  rintro e w2 ⟨ls, A2, c2, rfl, hS2, hl7, hR2, hg2⟩
  have hb2 : Below w.heap.size w w2 := hb1.grown hg2 hz1 (fun j hj => by injection hj with hj; omega)
  have HS2 := hide (ownsRow_mono hS2 hz1)
  clear hg2 hS2
  go_wp2_with fail
  refine bodyPost_ret (results_tmp rfl _ _ _) rfl ⟨ls, A2, c2, rfl, HS2.out, hl7, hb2⟩

set_option maxHeartbeats 1000000 in
theorem drawTicketMay_any (A : Option Addr) (c m : Nat) (w : World) (hB : BytesIn w A m) (hm : m ≤ 9223372036854775807) (hc : m ≤ c) (hc2 : c ≤ 9223372036854775807) :
    Calls Tryd.prog 26 #[.slice A m c] w (DrawnTick w) := by
  go_enter Tryd.func26, Tryd.ntmps26
  go_wp2_with fail
  refine (open_any A c m w hB hm hc hc2).mono ?_
  rintro e w1 ⟨rfl, hR1, hb1⟩
  have hz1 := hb1.size
  go_wp2_with fail
  refine (l20Ticket_any w.heap.size 0 9 _ hR1 (by omega) (by omega)).mono ?_
  rintro e w2 ⟨ls, A2, c2, rfl, hS2, hl7, hR2, hg2⟩
  have hb2 : Below w.heap.size w w2 := hb1.grown hg2 hz1 (fun j hj => by injection hj with hj; omega)
  have HS2 := hide (ownsRow_mono hS2 hz1)
  clear hg2 hS2
  go_wp2_with fail
  refine bodyPost_ret (results_tmp rfl _ _ _) rfl ⟨ls, A2, c2, rfl, HS2.out, hl7, hb2⟩
end Go.Proofs.YthmpopdoihlfdaaDoor
