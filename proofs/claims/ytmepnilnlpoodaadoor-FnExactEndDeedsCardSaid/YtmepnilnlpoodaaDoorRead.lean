/- From a row's reading of its arguments to lists of parts and items; the end of a law that answers true and has changed nothing that was there.
   Conditions: none. -/
import Derived.Test.YtmepnilnlpoodaaDoorMem
import Derived.Test.YtmepnilnlpoodaaDoorRows
import Derived.ProofKit
import Derived.OpenShut
import Derived.SizedLaws
import Derived.Deep.Slices
import Derived.Carry
namespace Go.Proofs.YtmepnilnlpoodaaDoor
open Go.RowKit Go.ChangeShapes Go.WideShapes Go.ChangeAt Go.Deep

theorem own : ownKnob Tryd.prog.godebug = none := by kernel_rfl
theorem laid : laidOutB Tryd.prog = true := by kernel_rfl

section
variable {H : Type} {enc : TypeId × Value → H}

theorem trodAll_stay {P : Program} (hl : laidOutB P = true) {W W' : World} (hb : Below W.heap.size W W') : ∀ (ts : List TypeId) (vs : List Value) (ds : List (DataW H)) (ps : List MemPlace),
    (∀ t ∈ ts, P.readableRec t = true ∧ t < P.types.size) → (∀ x ∈ ps, x.block < W.heap.size) → DataW.TrodAll enc P W 0 (fun _ => true) true ts vs ds ps →
    DataW.TrodAll enc P W' 0 (fun b => decide (b < W.heap.size)) true ts vs ds ps
  | [], vs, ds, ps, _, _, h => by
    obtain ⟨rfl, rfl, rfl⟩ := trodAll_nil h
    exact trodAll_mk0
  | t :: ts, vs, ds, ps, ht, hx, h => by
    obtain ⟨v, vs', d, ds', p, q, rfl, rfl, rfl, h1, h2⟩ := trodAll_cons h
    exact trodAll_cons_mk (Below.trod hl (ht t (by simp)).1 (ht t (by simp)).2 h1 hb (fun x h => hx x (by simp [h])))
      (trodAll_stay hl hb ts _ _ _ (fun t h => ht t (by simp [h])) (fun x h => hx x (by simp [h])) h2)

/-- The end of a law that answers true: of what was there nothing has turned. -/
theorem post_true {f : Func} {s : ChangeSpec} {W W' : World} {args : Array Value} {ds gs : List (DataW H)} {before : List MemPlace} {t : TypeId}
    (hW : DataW.Whole enc Tryd.prog f.params.toList s.vars false W args.toList ds gs before) (hv : s.vars = []) (hr : f.resultTypes = #[t]) (ht : Tryd.prog.underlying t = some .bool)
    (hp : ∀ t ∈ f.params.toList, Tryd.prog.readableRec t = true ∧ t < Tryd.prog.types.size)
    (hres : (s.fn H (ds ++ gs)).results = [.lit (.bool true)]) (hargs : (s.fn H (ds ++ gs)).args = ds) (hvars : (s.fn H (ds ++ gs)).vars = [])
    (hb : Below W.heap.size W W') : s.post enc Tryd.prog f false true false false W args (.bool true) W' := by
  have hW' := hW
  obtain ⟨p, q, hA, hV, rfl, _, _⟩ := hW
  rw [hv] at hV
  obtain ⟨rfl, rfl⟩ := trodVars_none hV
  refine ⟨_, _, _, [], p, [], hW', ?_, ?_, by rw [hvars, hv]; rfl, hb.frame _, fun h => by cases h⟩
  · rw [hr, hres]
    exact trodAll_mk1 (shut_bool ht _)
  · rw [hargs]
    exact trodAll_stay laid hb _ _ _ _ hp (fun x hx => hW'.lt x (by simp [hx])) hA

theorem cell_lt {w : World} {a : Addr} {v : Value} (h : w.cell? a = some v) : a.block < w.heap.size ∧ a.spot = none := by
  refine ⟨?_, World.cell?_spot h⟩
  rcases Nat.lt_or_ge a.block w.heap.size with hlt | hge
  · exact hlt
  · simp [World.cell?, Array.getElem?_eq_none hge] at h

theorem addr_of {w : World} {a : Addr} {v : Value} (h : w.cell? (a.add 0) = some v) : ∃ b off, a = ⟨b, off, none⟩ ∧ ∀ j, a.add j = ⟨b, off + j, none⟩ := by
  have hs := (cell_lt h).2
  obtain ⟨b, off, spot⟩ := a
  obtain rfl : spot = none := by simpa [Addr.add] using hs
  exact ⟨b, off, rfl, fun j => add_plain ..⟩

instance : Inhabited Part := ⟨⟨0, 0⟩⟩
instance : Inhabited Item := ⟨⟨0, [], 0⟩⟩

variable {w : World} {base : Nat} {spare : Nat → Bool} {held : Bool}

theorem two_cells {e : TypeId} {fs : Array Field} {fuel : Nat} {cs : List Value} {x : DataW H × List MemPlace} (he : Tryd.prog.underlying e = some (.struct fs))
    (hs : (fs.map fun f => (f.type, f.offset)) = #[(3, 0), (3, 1)]) (h : DataW.trod enc Tryd.prog w base spare held fuel e cs = some x) :
    ∃ a b, cs[0]? = some (.int .i64 a) ∧ cs[1]? = some (.int .i64 b) := by
  obtain ⟨xs, n, _, _, _, hlen, hf⟩ := DataW.trod_struct he h
  have hsz : fs.size = 2 := by have := congrArg Array.size hs; simpa using this
  have g : ∀ (j : Nat) (o : Nat), (fs.map fun f => (f.type, f.offset))[j]? = some (3, o) → ∃ a, cs[o]? = some (.int .i64 a) := by
    intro j o hj
    simp only [Array.getElem?_map, Option.map_eq_some_iff, Prod.mk.injEq] at hj
    obtain ⟨f, hfj, ht, ho⟩ := hj
    have h1 := hf j f hfj
    rw [ht, ho, show Tryd.prog.cellsOf 3 = 1 from by kernel_rfl] at h1
    have hj2 : j < xs.length := by rw [hlen]; exact (Array.getElem?_eq_some_iff.1 hfj).1
    rw [List.getElem?_eq_getElem hj2] at h1
    obtain ⟨a, ha, _⟩ := DataW.trod_int Tryd.underlying3 h1
    refine ⟨a, ?_⟩
    have : ((cs.drop o).take 1)[0]? = some (.int .i64 a) := by rw [ha]; rfl
    simpa [List.getElem?_take, List.getElem?_drop] using this
  obtain ⟨a, ha⟩ := g 0 0 (by rw [hs]; rfl)
  obtain ⟨b, hb⟩ := g 1 1 (by rw [hs]; rfl)
  exact ⟨a, b, ha, hb⟩

theorem open_parts {fuel : Nat} {cs : List Value} {x : DataW H × List MemPlace} (h : DataW.trod enc Tryd.prog w base spare held fuel 105 cs = some x) :
    ∃ A c ps, cs = [.slice A ps.length c] ∧ PartsAt w A ps ∧ ps.length ≤ 9223372036854775807 := by
  rcases open_slice Tryd.underlying105 h with ⟨rfl, _⟩ | ⟨a, len, cap, m, n, D, Pl, rfl, _, hl, hm, hmm, _, hi⟩
  · exact ⟨none, 0, [], rfl, fun i p hp => by simp at hp, by simp⟩
  · have hlm : len ≤ m := by rw [hmm]; split <;> omega
    have hcells : Tryd.prog.cellsOf 159 = 2 := by kernel_rfl
    rw [hcells] at hi
    obtain ⟨f, hf⟩ := choose_lt (α := Part) (n := len) (p := fun i p => w.cell? (a.add (i * 2)) = some (.int .i64 p.of) ∧ w.cell? (a.add (i * 2 + 1)) = some (.int .i64 p.many)) (fun i hil => by
      obtain ⟨cs', hc, ht⟩ := hi i (by omega)
      obtain ⟨_, _, hat⟩ := World.cells?_some hc
      obtain ⟨u, v, h0, h1⟩ := two_cells Tryd.underlying159 (by simp) ht
      have e0 := hat 0 (by omega)
      have e1 := hat 1 (by omega)
      rw [Go.Deep.add_add, h0] at e0
      rw [Go.Deep.add_add, h1] at e1
      exact ⟨⟨u, v⟩, e0, e1⟩)
    refine ⟨some a, cap, (List.range len).map f, by simp, fun i p hp => ?_, by simp only [List.length_map, List.length_range]; unfold maxLen at hm; omega⟩
    have hil : i < len := by have := (List.getElem?_eq_some_iff.1 hp).1; simpa using this
    have hpe : f i = p := by simpa [hil] using hp
    obtain ⟨g0, g1⟩ := hf i hil
    rw [hpe] at g0 g1
    obtain ⟨b, off, rfl, hadd⟩ := addr_of (hf 0 (by omega)).1
    rw [hadd] at g0 g1
    exact ⟨b, off, rfl, (cell_lt g0).1, g0, by rw [Nat.add_assoc]; exact g1⟩

theorem three_cells {fuel : Nat} {cs : List Value} {x : DataW H × List MemPlace} (h : DataW.trod enc Tryd.prog w base spare held fuel 107 cs = some x) :
    ∃ (y : Int) (A : Option Addr) (c : Nat) (ps : List Part) (m : Int), cs[0]? = some (.int .i64 y) ∧ cs[1]? = some (.slice A ps.length c) ∧ cs[2]? = some (.int .i64 m) ∧ PartsAt w A ps ∧ ps.length ≤ 9223372036854775807 := by
  obtain ⟨xs, n, _, _, _, hlen, hf⟩ := DataW.trod_struct Tryd.underlying107 h
  have hx : xs.length = 3 := hlen
  have f0 : DataW.trod enc Tryd.prog w base spare held n 3 ((cs.drop 0).take (Tryd.prog.cellsOf 3)) = xs[0]? := hf 0 _ rfl
  have f1 : DataW.trod enc Tryd.prog w base spare held n 105 ((cs.drop 1).take (Tryd.prog.cellsOf 105)) = xs[1]? := hf 1 _ rfl
  have f2 : DataW.trod enc Tryd.prog w base spare held n 3 ((cs.drop 2).take (Tryd.prog.cellsOf 3)) = xs[2]? := hf 2 _ rfl
  simp only [show Tryd.prog.cellsOf 3 = 1 from by kernel_rfl, show Tryd.prog.cellsOf 105 = 1 from by kernel_rfl] at f0 f1 f2
  rw [List.getElem?_eq_getElem (by omega)] at f0 f1 f2
  obtain ⟨y, hy, _⟩ := DataW.trod_int Tryd.underlying3 f0
  obtain ⟨A, c, ps, hps, hpa, hpl⟩ := open_parts f1
  obtain ⟨m, hm, _⟩ := DataW.trod_int Tryd.underlying3 f2
  have g : ∀ (o : Nat) (v : Value), (cs.drop o).take 1 = [v] → cs[o]? = some v := fun o v h => by
    have : ((cs.drop o).take 1)[0]? = some v := by rw [h]; rfl
    simpa [List.getElem?_take, List.getElem?_drop] using this
  exact ⟨y, A, c, ps, m, g 0 _ hy, g 1 _ hps, g 2 _ hm, hpa, hpl⟩

theorem open_items {fuel : Nat} {cs : List Value} {x : DataW H × List MemPlace} (h : DataW.trod enc Tryd.prog w base spare held fuel 22 cs = some x) :
    ∃ A c l, cs = [.slice A l.length c] ∧ ItemsAt w A l ∧ l.length ≤ 9223372036854775807 ∧ ∀ x ∈ l, x.parts.length ≤ 9223372036854775807 := by
  rcases open_slice Tryd.underlying22 h with ⟨rfl, _⟩ | ⟨a, len, cap, m, n, D, Pl, rfl, _, hl, hm, hmm, _, hi⟩
  · exact ⟨none, 0, [], rfl, fun i p hp => by simp at hp, by simp, by simp⟩
  · have hlm : len ≤ m := by rw [hmm]; split <;> omega
    have hcells : Tryd.prog.cellsOf 107 = 3 := by kernel_rfl
    rw [hcells] at hi
    obtain ⟨f, hf⟩ := choose_lt (α := Item) (n := len) (p := fun i x => w.cell? (a.add (i * 3)) = some (.int .i64 x.yield) ∧ (∃ A c, w.cell? (a.add (i * 3 + 1)) = some (.slice A x.parts.length c) ∧ PartsAt w A x.parts) ∧
        w.cell? (a.add (i * 3 + 2)) = some (.int .i64 x.marks) ∧ x.parts.length ≤ 9223372036854775807) (fun i hil => by
      obtain ⟨cs', hc, ht⟩ := hi i (by omega)
      obtain ⟨_, _, hat⟩ := World.cells?_some hc
      obtain ⟨y, A, c, ps, mk, h0, h1, h2, hpa, hpl⟩ := three_cells ht
      have e0 := hat 0 (by omega)
      have e1 := hat 1 (by omega)
      have e2 := hat 2 (by omega)
      rw [Go.Deep.add_add, h0] at e0
      rw [Go.Deep.add_add, h1] at e1
      rw [Go.Deep.add_add, h2] at e2
      exact ⟨⟨y, ps, mk⟩, e0, ⟨A, c, e1, hpa⟩, e2, hpl⟩)
    refine ⟨some a, cap, (List.range len).map f, by simp, fun i p hp => ?_, by simp only [List.length_map, List.length_range]; unfold maxLen at hm; omega, fun x hx => ?_⟩
    · have hil : i < len := by have := (List.getElem?_eq_some_iff.1 hp).1; simpa using this
      have hpe : f i = p := by simpa [hil] using hp
      obtain ⟨g0, ⟨A, c, g1, gp⟩, g2, _⟩ := hf i hil
      rw [hpe] at g0 g1 g2 gp
      obtain ⟨b, off, rfl, hadd⟩ := addr_of (hf 0 (by omega)).1
      rw [hadd] at g0 g1 g2
      exact ⟨b, off, A, c, rfl, (cell_lt g0).1, g0, by rw [Nat.add_assoc]; exact g1, by rw [Nat.add_assoc]; exact g2, gp⟩
    · obtain ⟨i, hi, rfl⟩ := List.mem_map.1 hx
      exact (hf i (by simpa using hi)).2.2.2
end
end Go.Proofs.YtmepnilnlpoodaaDoor
