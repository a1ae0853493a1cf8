/- Lists of parts that the call itself laid, and what lies in a block.
   Conditions: none. -/
import Derived.Test.YtmepnilnlpoodaaDoorMem
import Derived.Laws.OwnMore
namespace Go.Proofs.YtmepnilnlpoodaaDoor
open Go.RowKit

def partCells (ps : List Part) : List Value := ps.flatMap (fun p => [.int .i64 p.of, .int .i64 p.many])
theorem partCells_at : ∀ {ps : List Part} {i : Nat} {p : Part}, ps[i]? = some p → (partCells ps)[i * 2]? = some (.int .i64 p.of) ∧ (partCells ps)[i * 2 + 1]? = some (.int .i64 p.many)
  | [], i, p, h => by simp at h
  | q :: r, 0, p, h => by
    obtain rfl : q = p := by simpa using h
    exact ⟨rfl, rfl⟩
  | q :: r, i + 1, p, h => by
    have := partCells_at (ps := r) (i := i) (p := p) (by simpa using h)
    rw [show (i + 1) * 2 = i * 2 + 1 + 1 from by omega]
    exact this
theorem partCells_len (ps : List Part) : (partCells ps).length = ps.length * 2 := by
  induction ps with
  | nil => rfl
  | cons q r ih => simp only [partCells, List.flatMap_cons, List.length_append, List.length_cons, List.length_nil] at *; omega
theorem partCells_snoc (ps : List Part) (p : Part) : partCells (ps ++ [p]) = partCells ps ++ [.int .i64 p.of, .int .i64 p.many] := by simp [partCells]

def PartSl (w : World) (lo : Nat) (v : Value) (ps : List Part) : Prop := w.ownsRow lo 130 2 v ps.length (partCells ps)

theorem PartSl.form {w : World} {lo : Nat} {v : Value} {ps : List Part} (h : PartSl w lo v ps) : ∃ A c, v = .slice A ps.length c ∧ PartsAt w A ps := by
  have hlt := h.lt
  rcases h.2 with ⟨hv, hn⟩ | ⟨g, cap, cur, hv, _⟩
  · have : ps = [] := List.eq_nil_of_length_eq_zero hn
    subst this
    exact ⟨none, 0, hv, fun i x hx => by simp at hx⟩
  · refine ⟨some ⟨g, 0, none⟩, cap, hv, fun i p hp => ?_⟩
    subst hv
    have hi : i < ps.length := (List.getElem?_eq_some_iff.1 hp).1
    have hc := partCells_at hp
    refine ⟨g, 0, rfl, (hlt g rfl).2, ?_, ?_⟩
    · rw [Nat.zero_add, World.ownsRow.cellAt h (i * 2) (by omega)]; exact hc.1
    · rw [Nat.zero_add, World.ownsRow.cellAt h (i * 2 + 1) (by omega)]; exact hc.2

/-- The block of an address is a row of cells of type t. -/
def TB (w : World) (A : Option Addr) (t : TypeId) : Prop := ∀ a, A = some a → a.spot = none ∧ ∃ cs, w.heap[a.block]? = some (.cells cs t (0, 0))

theorem PartSl.tb {w : World} {lo n c : Nat} {A : Option Addr} {ps : List Part} (h : PartSl w lo (.slice A n c) ps) : TB w A 130 := by
  intro a ha
  rcases h.2 with ⟨hv, hn⟩ | ⟨g, cap, cur, hv, _, hg, _⟩
  · injection hv with hv
    rw [hv] at ha
    cases ha
  · injection hv with hv
    rw [hv] at ha
    injection ha with ha
    subst ha
    exact ⟨rfl, cur, hg⟩

theorem infoP : (Tryd.prog.info? 130).map (fun i => (i.zero, i.size, i.bytes)) = some (some (.agg #[.int .i64 0, .int .i64 0]), 2, 16) := by kernel_rfl

end Go.Proofs.YtmepnilnlpoodaaDoor
