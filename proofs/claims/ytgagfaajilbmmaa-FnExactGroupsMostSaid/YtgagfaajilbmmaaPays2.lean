/- Payments settle what is owed: contracts of PaysOk, of the program and of the reference model; copies of slices; the set of those who are open.
   Conditions: lists have at most 1048576 elements. -/
import Derived.Test.YtgagfaajilbmmaaBills
import Derived.Test.YtgagfaajilbmmaaPays
import Derived.Test.YtgagfaajilbmmaaSpread0
import Derived.Test.YtgagfaajilbmmaaTab
import Derived.Test.YtgagfaajilbmmaaUses
namespace Go.Proofs.Ytgagfaajilbmmaa
open Go.RowKit Go.ChangeShapes Go.WideShapes Go.ChangeAt Go.Deep

theorem pays_news {W : World} {ad : Addr} {xs : List Pay} (hA : PaysAt W (some ad) xs) : ∀ j u, (payCells xs)[j]? = some u → W.cell? (ad.add j) = some u := by
  intro j u hu
  have hj : j < xs.length * 3 := by have := (List.getElem?_eq_some_iff.1 hu).1; rwa [payCells_len] at this
  have hx := List.getElem?_eq_getElem (show j / 3 < xs.length by omega)
  obtain ⟨b, off, e, _, h1, h2, h3⟩ := hA _ _ hx
  injection e with e
  subst e
  have hc := payCells_at hx
  rw [add_plain]
  rcases (by omega : j = j / 3 * 3 ∨ j = j / 3 * 3 + 1 ∨ j = j / 3 * 3 + 2) with e | e | e
  · rw [e] at hu ⊢
    rw [hc.1] at hu
    rw [h1, hu]
  · rw [e] at hu ⊢
    rw [hc.2.1] at hu
    rw [show off + (j / 3 * 3 + 1) = off + j / 3 * 3 + 1 from by omega, h2, hu]
  · rw [e] at hu ⊢
    rw [hc.2.2] at hu
    rw [show off + (j / 3 * 3 + 2) = off + j / 3 * 3 + 2 from by omega, h3, hu]

theorem payCells_one {xs : List Pay} : ∀ u ∈ payCells xs, u.oneCell' = true := by
  intro u hu
  obtain ⟨p, _, h⟩ := List.mem_flatMap.1 hu
  simp only [List.mem_cons, List.not_mem_nil, or_false] at h
  rcases h with rfl | rfl | rfl <;> rfl

def payOk (p : Pay) (n : Int) : Bool := inR p.frm 0 (n - 1) && (inR p.tow 0 (n - 1) && (p.frm != p.tow && inR p.sum 1 9999))
def carry (p : Pay) (xs : List Int) : List Int :=
  (xs.set p.frm.toNat (wrap64 (xs.getD p.frm.toNat 0 + p.sum))).set p.tow.toNat (wrap64 (xs.getD p.tow.toNat 0 - p.sum))
def paysGo : List Pay → List Int → Bool
  | [], xs => xs.all (· == 0)
  | p :: r, xs => payOk p xs.length && paysGo r (carry p xs)
def paysOkL (owed : List Int) (ls : List Pay) : Bool := owedOk owed && paysGo ls owed

theorem carry_len (p : Pay) (xs : List Int) : (carry p xs).length = xs.length := by simp [carry]

theorem payOk_parts {p : Pay} {n : Nat} (h : payOk p n = true) : ∃ f t : Nat, p.frm = f ∧ p.tow = t ∧ f < n ∧ t < n ∧ ¬ t = f ∧ 1 ≤ p.sum ∧ p.sum ≤ 9999 := by
  unfold payOk at h
  simp only [Bool.and_eq_true, inR_iff, bne_iff_ne, ne_eq] at h
  refine ⟨p.frm.toNat, p.tow.toNat, ?_⟩
  omega

theorem carry_world0 {w : World} {lo g n cap : Nat} {xs : List Int} {f t : Nat} {d x y : Int} (h : IntSl w lo (.slice (some ⟨g, 0, none⟩) n cap) xs) (hx : xs[f]? = some x) (hy : xs[t]? = some y) (o : Obj) :
    IntSl (((w.setCell ⟨g, f, none⟩ (.int .i64 (wrap64 (x + d)))).setCell ⟨g, t, none⟩ (.int .i64 (wrap64 (y - d)))).alloc o) lo (.slice (some ⟨g, 0, none⟩) n cap) (carry ⟨f, t, d⟩ xs) ∧
    w.grownBy (((w.setCell ⟨g, f, none⟩ (.int .i64 (wrap64 (x + d)))).setCell ⟨g, t, none⟩ (.int .i64 (wrap64 (y - d)))).alloc o) (some g) := by
  have HC : carry ⟨f, t, d⟩ xs = (xs.set f (wrap64 (x + d))).set t (wrap64 (y - d)) := by
    unfold carry
    simp only [Int.toNat_natCast]
    rw [show xs.getD f 0 = x from by simp [List.getD, hx], show xs.getD t 0 = y from by simp [List.getD, hy]]
  have s1 := IntSl.store h f (wrap64 (x + d))
  have g1 := IntSl.grownSet h f (wrap64 (x + d))
  have s2 := IntSl.store s1 t (wrap64 (y - d))
  have g2 := IntSl.grownSet s1 t (wrap64 (y - d))
  exact ⟨by rw [HC]; exact World.ownsRow.alloc s2 _, (g1.trans g2).trans (World.grownBy_alloc _ o _)⟩

/-- The world behind a payment that is carried out, its box among it. -/
theorem carry_world {w : World} {lo g n cap : Nat} {xs : List Int} {f t : Nat} {d x y : Int} (h : IntSl w lo (.slice (some ⟨g, 0, none⟩) n cap) xs) (hx : xs[f]? = some x) (hy : xs[t]? = some y) (o : Obj) :
    IntSl ((((w.setCell ⟨g, f, none⟩ (.int .i64 (wrap64 (x + d)))).setCell ⟨g, t, none⟩ (.int .i64 (wrap64 (y - d)))).alloc o).drew.drew) lo (.slice (some ⟨g, 0, none⟩) n cap) (carry ⟨f, t, d⟩ xs) ∧
    w.grownBy ((((w.setCell ⟨g, f, none⟩ (.int .i64 (wrap64 (x + d)))).setCell ⟨g, t, none⟩ (.int .i64 (wrap64 (y - d)))).alloc o).drew.drew) (some g) := by
  have HC : carry ⟨f, t, d⟩ xs = (xs.set f (wrap64 (x + d))).set t (wrap64 (y - d)) := by
    unfold carry
    simp only [Int.toNat_natCast]
    rw [show xs.getD f 0 = x from by simp [List.getD, hx], show xs.getD t 0 = y from by simp [List.getD, hy]]
  have s1 := IntSl.store h f (wrap64 (x + d))
  have g1 := IntSl.grownSet h f (wrap64 (x + d))
  have s2 := IntSl.store s1 t (wrap64 (y - d))
  have g2 := IntSl.grownSet s1 t (wrap64 (y - d))
  have g3 := (g1.trans g2).trans (World.grownBy_alloc _ o _)
  exact ⟨by rw [HC]; exact IntSl.drew (IntSl.drew (World.ownsRow.alloc s2 _)), ⟨g3.os, g3.tape, g3.output, g3.size, g3.block⟩⟩

end Go.Proofs.Ytgagfaajilbmmaa
