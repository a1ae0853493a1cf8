/- copyTicket and TicketDo: contracts of the program and of the reference model.
   Conditions: lists have at most 1048576 elements; the two tables hold what the source says. -/
import Derived.Test.YtmepnilnlpoodaaDoorTick2
import Derived.Test.YtmepnilnlpoodaaDoorOTables
import Derived.Test.YtmepnilnlpoodaaDoorTab
namespace Go.Proofs.YtmepnilnlpoodaaDoor
open Go.RowKit Go.ChangeShapes Go.WideShapes Go.ChangeAt Go.Deep

theorem orderCells_turned (b : Int) : ∀ (ls : List Order) (i : Nat), i < ls.length → (orderCells ls).set (i * 2 + 1) (.int .i64 b) = orderCells (turned ls i b)
  | [], i, h => by simp at h
  | q :: r, 0, _ => rfl
  | q :: r, i + 1, h => by
    have ih := orderCells_turned b r i (by simpa using h)
    have e : turned (q :: r) (i + 1) b = q :: turned r i b := by simp [turned]
    rw [e, orderCells_cons, orderCells_cons, ← ih, show (i + 1) * 2 + 1 = i * 2 + 1 + 1 + 1 from by omega]
    rfl
theorem OrderSl.turn {w : World} {lo g n cap : Nat} {ls : List Order} (h : OrderSl w lo (.slice (some ⟨g, 0, none⟩) n cap) ls) (i : Nat) (hi : i < ls.length) (b : Int) :
    OrderSl (w.setCell ⟨g, i * 2 + 1, none⟩ (.int .i64 b)) lo (.slice (some ⟨g, 0, none⟩) n cap) (turned ls i b) := by
  obtain ⟨A, c, e, _⟩ := h.form
  injection e with e1 e2 e3
  subst e2
  have := (World.ownsRow.stored h (i * 2 + 1) (.int .i64 b)).1
  unfold OrderSl
  rw [← orderCells_turned b ls i hi, turned_len]
  exact this
theorem OrderSl.block {w : World} {lo n c : Nat} {A : Option Addr} {ls : List Order} (h : OrderSl w lo (.slice A n c) ls) (hn : 0 < ls.length) : ∃ g, A = some ⟨g, 0, none⟩ ∧ lo ≤ g ∧ g < w.heap.size := by
  have hlt := World.ownsRow.lt h
  rcases h.2 with ⟨hv, h0⟩ | ⟨g, cap, cur, hv, _⟩
  · omega
  · injection hv with e1 e2 e3
    subst e1
    exact ⟨g, rfl, hlt g rfl⟩

set_option maxHeartbeats 400000 in
theorem copyTicket_any (D : Option Addr) (c : Nat) (ls : List Order) (w : World) (hA : OrdersAt w D ls) (hl : ls.length ≤ 1048576) :
    Calls Tryd.prog 77 #[.slice D ls.length c] w fun e w' => ∃ v, e = .returned v ∧ OrderSl w' w.heap.size v ls ∧ Below w.heap.size w w' := by
  go_enter Tryd.func77, Tryd.ntmps77
  go_wp2_with (at_builtin; refine wpList_spread_tick rfl _ _ rfl w.heap.size (.slice none 0 0) [] rfl (World.ownsRow_nil _ _ _ _) D c ls rfl hA (by simp; omega) (Nat.le_refl _) ?_; intro A2 cap w1 hown hgrow)
  have hb : Below w.heap.size w w1 := (Below.refl _ w).grown hgrow (Nat.le_refl _) (fun k hk => by cases hk)
  simp only [List.length_nil, Nat.zero_add, List.nil_append] at hown
  go_wp2_with fail
  refine bodyPost_ret (results_tmp rfl _ _ _) rfl ⟨_, rfl, by simpa using hown, hb⟩

theorem getD_at {ls : List Order} {i : Nat} {p : Order} (h : ls[i]? = some p) : ls.getD i ⟨0, 0⟩ = p := by rw [List.getD_eq_getElem?_getD, h]; rfl

end Go.Proofs.YtmepnilnlpoodaaDoor
