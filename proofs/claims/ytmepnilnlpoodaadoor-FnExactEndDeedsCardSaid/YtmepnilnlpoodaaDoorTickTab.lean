/- The two tables of chapter 4, as the listed variables hold them: how many pieces are left in each state, and the next state of each event.
   Conditions: none. -/
import Derived.Test.YtmepnilnlpoodaaDoorTickMath
import Derived.Test.YtmepnilnlpoodaaDoorRead
import Derived.Test.YtmepnilnlpoodaaDoorRows
import Derived.Lib.LaidTab
import Derived.LaidLaws
import Derived.OpenShut
import Derived.Test.YtmepnilnlpoodaaDoorPostVars
namespace Go.Proofs.YtmepnilnlpoodaaDoor
open Go.RowKit Go.ChangeShapes Go.WideShapes Go.ChangeAt Go.Deep

/-- An array of arrays of integers that reads as the table: what lies in its cells. -/
theorem cells_of_tab2 {H : Type} {enc : TypeId × Value → H} {P : Program} {w : World} {base : Nat} {sp : Nat → Bool} {held : Bool} {fuel : Nat} {t r e : TypeId} {n m : Nat} {k : IntKind} {cs : List Value} {zss : List (List Int)} {p : List MemPlace}
    (ht : P.underlying t = some (.array n r)) (hr : P.underlying r = some (.array m e)) (he : P.underlying e = some (.int k)) (hce : P.cellsOf e = 1) (hcr : P.cellsOf r = m) (hct : P.cellsOf t = n * m)
    (h : DataW.trod enc P w base sp held fuel t cs = some (.agg (zss.map fun zs => Lib.tabData k zs), p)) : ∀ i zs, zss[i]? = some zs → i < n → (cs.drop (i * m)).take m = zs.map fun z => Value.int k z := by
  cases fuel with
  | zero => simp [DataW.trod] at h
  | succ fuel =>
    simp only [DataW.trod, ht, hcr, hct] at h
    split at h
    · obtain ⟨xs, hm, hx⟩ := Option.map_eq_some_iff.1 h
      have hxs : xs.map (·.1) = zss.map fun zs => (Lib.tabData k zs : DataW H) := by
        have := congrArg Prod.fst hx
        simpa using this
      intro i zs hz hi
      obtain ⟨b, hb, hf⟩ := Lib.mapM_at hm i i (by simp [hi])
      have h2 : (xs.map (·.1))[i]? = some b.1 := by simp [hb]
      rw [hxs] at h2
      simp only [List.getElem?_map, hz, Option.map_some, Option.some.injEq] at h2
      obtain ⟨b1, b2⟩ := b
      simp only at h2
      subst h2
      exact Lib.cells_of_tab hr he hce hcr hf
    · cases h

def piecesZ : List Int := [3, 2, 1, 0, 0]
def nextZ : List (List Int) := [[1, 0, 0, 0, 0], [0, 2, 0, 0, 0], [0, 0, 3, 0, 0], [4, 4, 4, 0, 0]]

/-- piecesLeft holds what the source says. -/
def PiecesAt (w : World) : Prop := ∀ s : Nat, s < 5 → 2 < w.heap.size ∧ w.cell? ⟨2, s, none⟩ = some (.int .i64 (piecesZ.getD s 0))
theorem PiecesAt.below {w w' : World} (h : PiecesAt w) (hb : Below w.heap.size w w') : PiecesAt w' := fun s hs => ⟨Nat.lt_of_lt_of_le (h s hs).1 hb.size, (hb.cell (h s hs).1).trans (h s hs).2⟩
theorem laidVars_mem {P : Program} {w : World} {n : String} {d : DataW Unit} : ∀ {laid : List (String × DataW Unit)} {ps : List MemPlace}, DataW.LaidVars P w laid ps → (n, d) ∈ laid →
    ∃ g t cs fuel p, P.globalNamed n = some g ∧ (P.globals[g]?).map (·.type) = some t ∧ w.var? P n = some cs ∧ DataW.trod (fun _ => ()) P w 0 (fun _ => true) false fuel t cs.toList = some (d, p)
  | [], _, _, h => by simp at h
  | (n', d') :: r, _, hv, h => by
    obtain ⟨g, t, cs, fuel, p, q, h1, h2, h3, h4, h5, _⟩ := hv
    rcases List.mem_cons.1 h with e | e
    · injection e with e1 e2
      subst e1 e2
      exact ⟨g, t, cs, fuel, p, h1, h2, h3, h4⟩
    · exact laidVars_mem h5 e

theorem piecesAt_of {laid : List (String × DataW Unit)} {W : World} (h : laidMet Tryd.prog laid W) (hm : ("loop.example/restaurantkitchen/impl.piecesLeft", Rows.laid_loop_example_restaurantkitchen_impl_piecesLeft) ∈ laid) : PiecesAt W := by
  obtain ⟨ps, hps, _⟩ := h
  obtain ⟨g, t, cs, fuel, p, hg, ht, hv, hd⟩ := laidVars_mem hps hm
  have hg' : Tryd.prog.globalNamed "loop.example/restaurantkitchen/impl.piecesLeft" = some 2 := by kernel_rfl
  obtain rfl : 2 = g := Option.some.inj (hg'.symm.trans hg)
  have ht' : (Tryd.prog.globals[2]?).map (·.type) = some 148 := by kernel_rfl
  obtain rfl : 148 = t := Option.some.inj (ht'.symm.trans ht)
  have hcs : cs.toList = piecesZ.map fun z => Value.int .i64 z := Lib.cells_of_tab (n := 5) Tryd.underlying148 Tryd.underlying3 (by kernel_rfl) (by kernel_rfl) hd
  intro s hs
  have hc := World.var?_cell hg' hv s
  have : cs[s]? = some (Value.int .i64 (piecesZ.getD s 0)) := by
    rw [← Array.getElem?_toList, hcs, List.getElem?_map]
    have hl : s < piecesZ.length := hs
    rw [List.getElem?_eq_getElem hl, List.getD_eq_getElem?_getD, List.getElem?_eq_getElem hl]
    rfl
  rw [this] at hc
  exact ⟨(cell_lt hc).1, hc⟩

theorem glob_pieces (g : Nat) (t : TypeId) (hg : Tryd.prog.globalNamed "loop.example/restaurantkitchen/impl.piecesLeft" = some g) (ht : (Tryd.prog.globals[g]?).map (·.type) = some t) : Tryd.prog.readableRec t = true ∧ t < Tryd.prog.types.size := by
  have hg' : Tryd.prog.globalNamed "loop.example/restaurantkitchen/impl.piecesLeft" = some 2 := by kernel_rfl
  obtain rfl : 2 = g := Option.some.inj (hg'.symm.trans hg)
  have ht' : (Tryd.prog.globals[2]?).map (·.type) = some 148 := by kernel_rfl
  obtain rfl : 148 = t := Option.some.inj (ht'.symm.trans ht)
  exact ⟨by kernel_rfl, of_decide_eq_true (by kernel_rfl)⟩
theorem nextZ_at : ∀ e : Nat, e < 4 → ∃ zs, nextZ[e]? = some zs ∧ ∀ s : Nat, s < 5 → (zs.map fun z => Value.int .i64 z)[s]? = some (.int .i64 (tbl e s)) := by
  intro e he
  rcases (by omega : e = 0 ∨ e = 1 ∨ e = 2 ∨ e = 3) with rfl | rfl | rfl | rfl <;> refine ⟨_, rfl, fun s hs => ?_⟩ <;> rcases (by omega : s = 0 ∨ s = 1 ∨ s = 2 ∨ s = 3 ∨ s = 4) with rfl | rfl | rfl | rfl | rfl <;> rfl

end Go.Proofs.YtmepnilnlpoodaaDoor
