/- The end of a law that answers true, where the row names variables: they read as they did.
   Conditions: none. -/
import Derived.Test.YtmepnilnlpoodaaDoorRead
import Derived.ChangeVars
namespace Go.Proofs.YtmepnilnlpoodaaDoor
open Go.RowKit Go.ChangeShapes Go.WideShapes Go.ChangeAt Go.Deep

section
variable {H : Type} {enc : TypeId × Value → H}

theorem trodVars_stay {P : Program} (hl : laidOutB P = true) {W W' : World} (hb : Below W.heap.size W W') : ∀ (ns : List String) (gs : List (DataW H)) (ps : List MemPlace),
    (∀ n ∈ ns, ∀ g t, P.globalNamed n = some g → (P.globals[g]?).map (·.type) = some t → P.readableRec t = true ∧ t < P.types.size) → (∀ x ∈ ps, x.block < W.heap.size) → DataW.TrodVars enc P W (fun _ => true) ns gs ps →
    DataW.TrodVars enc P W' (fun b => decide (b < W.heap.size)) ns gs ps
  | [], [], ps, _, _, h => h
  | [], _ :: _, ps, _, _, h => by cases h
  | _ :: _, [], ps, _, _, h => by cases h
  | n :: ns, d :: ds, ps, ht, hx, h => by
    obtain ⟨g, t, cs, fuel, p, q, h1, h2, h3, h4, h5, rfl⟩ := h
    obtain ⟨hr, hrow⟩ := ht n (by simp) g t h1 h2
    have hg : g < W.heap.size := by
      unfold World.var? at h3
      rw [h1, Option.bind_some] at h3
      rcases Nat.lt_or_ge g W.heap.size with hlt | hge
      · exact hlt
      · rw [Array.getElem?_eq_none hge] at h3
        cases h3
    have h3' : W'.var? P n = some cs := by
      unfold World.var? at h3 ⊢
      rw [h1, Option.bind_some] at h3 ⊢
      rw [hb.block g hg]
      exact h3
    refine ⟨g, t, cs, fuel, p, q, h1, h2, h3', ?_, trodVars_stay hl hb ns ds q (fun m hm => ht m (by simp [hm])) (fun x h => hx x (by simp [h])) h5, rfl⟩
    exact DataW.trod_stays (kids_book hl hr) (book_sized hr) (fun h => by cases h) ⟨hrow, book_self t⟩ h4 (fun x h => hb.same (hx x (by simp [h]))) (fun x h => by simpa using hx x (by simp [h]))

theorem trodVars_len {P : Program} {w : World} {sp : Nat → Bool} : ∀ {ns : List String} {gs : List (DataW H)} {ps : List MemPlace}, DataW.TrodVars enc P w sp ns gs ps → gs.length = ns.length
  | [], [], _, _ => rfl
  | [], _ :: _, _, h => by cases h
  | _ :: _, [], _, h => by cases h
  | n :: ns, d :: ds, ps, h => by
    obtain ⟨g, t, cs, fuel, p, q, h1, h2, h3, h4, h5, rfl⟩ := h
    rw [List.length_cons, List.length_cons, trodVars_len h5]
theorem len1 {α : Type} {gs : List α} (h : gs.length = 1) : ∃ a, gs = [a] := by
  match gs, h with
  | [a], _ => exact ⟨a, rfl⟩
theorem len2 {α : Type} {gs : List α} (h : gs.length = 2) : ∃ a b, gs = [a, b] := by
  match gs, h with
  | [a, b], _ => exact ⟨a, b, rfl⟩

/-- The end of a law that answers true: of what was there nothing has turned. -/
theorem post_trueV {f : Func} {s : ChangeSpec} {W W' : World} {args : Array Value} {ds gs : List (DataW H)} {before : List MemPlace} {t : TypeId}
    (hW : DataW.Whole enc Tryd.prog f.params.toList s.vars false W args.toList ds gs before) (hr : f.resultTypes = #[t]) (ht : Tryd.prog.underlying t = some .bool)
    (hp : ∀ t ∈ f.params.toList, Tryd.prog.readableRec t = true ∧ t < Tryd.prog.types.size)
    (hg : ∀ n ∈ s.vars, ∀ g t, Tryd.prog.globalNamed n = some g → (Tryd.prog.globals[g]?).map (·.type) = some t → Tryd.prog.readableRec t = true ∧ t < Tryd.prog.types.size)
    (hres : (s.fn H (ds ++ gs)).results = [.lit (.bool true)]) (hargs : (s.fn H (ds ++ gs)).args = ds) (hvars : (s.fn H (ds ++ gs)).vars = gs)
    (hb : Below W.heap.size W W') : s.post enc Tryd.prog f false true false false W args (.bool true) W' := by
  have hW' := hW
  obtain ⟨p, q, hA, hV, rfl, _, _⟩ := hW
  refine ⟨_, _, _, [], p, q, hW', ?_, ?_, ?_, hb.frame _, fun h => by cases h⟩
  · rw [hr, hres]
    exact trodAll_mk1 (shut_bool ht _)
  · rw [hargs]
    exact trodAll_stay laid hb _ _ _ _ hp (fun x hx => hW'.lt x (by simp [hx])) hA
  · rw [hvars]
    exact trodVars_stay laid hb _ _ _ hg (fun x hx => hW'.lt x (by simp [hx])) hV
end
end Go.Proofs.YtmepnilnlpoodaaDoor
