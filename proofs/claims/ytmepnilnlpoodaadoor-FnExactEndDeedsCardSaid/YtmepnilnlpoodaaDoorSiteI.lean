/- Append of a whole list onto a row that the call owns, for any kind of element, nil or not; the library's Clone of numbers and of parts.
   Conditions: the bounds in each statement.
   siteOf of the program: a house copied, in rows of its own.
   Conditions: the bounds in each statement.
   The tickets of all tables, in the memory of the tables: kitchen and workLeft of the program, l7Tickets of the reference model.
   Conditions: the bounds in each statement. -/
import Derived.Test.YtmepnilnlpoodaaDoorPartRow
import Derived.Test.YtmepnilnlpoodaaDoorSpread0
import Derived.Test.YtmepnilnlpoodaaDoorHseOwn
import Derived.Test.YtmepnilnlpoodaaDoorTick4
import Derived.Test.YtmepnilnlpoodaaDoorTick7
import Derived.Test.YtmepnilnlpoodaaDoorHouseMath
namespace Go.Proofs.YtmepnilnlpoodaaDoor
open Go.RowKit Go.ChangeShapes Go.WideShapes Go.ChangeAt Go.Deep

theorem run_spreadG {P : Program} {w : World} (t ty : TypeId) (base : Nat) (e : TypeId) (i : TypeInfo) (z : Value) (size bytes : Nat) (ht : P.underlying t = some (.slice e)) (hi : P.info? e = some i) (hz : i.zero = some z)
    (hsize : i.size = size) (hby : i.bytes = bytes) (hzs : z.cells.size = size) (hsz : 0 < size) (v : Value) (n : Nat) (xs : List Value) (hown : w.ownsRow base e size v n xs)
    (D : Option Addr) (m c : Nat) (news : List Value) (hl : news.length = m * size) (hnews : ∀ j u, news[j]? = some u → ∃ ad, D = some ad ∧ w.cell? (ad.add j) = some u) (h1 : ∀ u ∈ news, u.oneCell' = true)
    (h63 : n + m ≤ maxLen) (hbytes : (n + m) * bytes ≤ 140737488355328) (hbase : base ≤ w.heap.size) :
    ∃ A cap w', (Builtin.append_ #[t, t] ty #[v, .slice D m c]).run P w = .ok (.slice A (n + m) cap) w' ∧ w'.ownsRow base e size (.slice A (n + m) cap) (n + m) (xs ++ news) ∧ w.grownBy w' v.ownBlock ∧
      ∀ k, (Value.slice A (n + m) cap).ownBlock = some k → v.ownBlock = some k ∨ w.heap.size ≤ k := by
  cases D with
  | none =>
    have hm : m = 0 := by
      rcases Nat.eq_zero_or_pos m with h | h
      · exact h
      · have hp : 0 < news.length := by rw [hl]; exact Nat.mul_pos h hsz
        obtain ⟨ad, e, _⟩ := hnews 0 news[0] (List.getElem?_eq_getElem hp)
        cases e
    subst hm
    have hn : news = [] := List.eq_nil_of_length_eq_zero (by rw [hl]; omega)
    subst hn
    obtain ⟨A, cap, rfl⟩ : ∃ A cap, v = .slice A n cap := by
      rcases hown.2 with ⟨rfl, rfl⟩ | ⟨g, cap, cur, rfl, _⟩
      · exact ⟨none, 0, rfl⟩
      · exact ⟨_, _, rfl⟩
    refine ⟨A, cap, w, ?_, by simpa using hown, World.grownBy.refl _ _, fun k hk => .inl hk⟩
    rcases hown.2 with ⟨h5, h6⟩ | ⟨g, cap', cur, h5, _, _, hnc, _⟩
    · injection h5 with a b d
      subst a b d
      simp [Builtin.append_, run_underlying ht, sizeOf, typeInfo, hi, Builtin.lenOf, Builtin.firstCells]
    · injection h5 with a b d
      subst a d
      simp [Builtin.append_, run_underlying ht, sizeOf, typeInfo, hi, Builtin.lenOf, Builtin.firstCells, hnc, storeCells]
  | some ad =>
    obtain ⟨v', w', hr, h2, h3, h4, h5⟩ := run_append_own_at (P := P) w base t ty e i z size bytes ht hi hz hsize hby hzs hsz v n xs hown ad m c news hl (fun j u hu => by obtain ⟨a, e, hc⟩ := hnews j u hu; injection e with e; subst e; exact hc) h1 h63 hbytes hbase
    obtain ⟨A, cap, rfl⟩ : ∃ A cap, v' = .slice A (n + m) cap := by
      rcases h2.2 with ⟨h6, h7⟩ | ⟨g, cap, cur, h6, _⟩
      · exact ⟨none, 0, by rw [h6, h7]⟩
      · exact ⟨_, _, h6⟩
    refine ⟨A, cap, w', hr, h2, h3, fun k hk => ?_⟩
    rcases h5 with h5 | h5
    · exact .inl (h5 ▸ hk)
    · rw [h5] at hk
      injection hk with hk
      exact .inr (by omega)

theorem wp_spreadG {P : Program} {w : World} {o : Oper} {a : Act} {K : Act → World → Prop} {Q : Exit → Act → World → Prop} (s x : Operand) (t : TypeId)
    (ho : o.op = .call { callee := .builtin .append, args := #[s, x], argTypes := #[t, t] })
    (base : Nat) (e : TypeId) (i : TypeInfo) (z : Value) (size bytes : Nat) (ht : P.underlying t = some (.slice e)) (hi : P.info? e = some i) (hz : i.zero = some z)
    (hsize : i.size = size) (hby : i.bytes = bytes) (hzs : z.cells.size = size) (hsz : 0 < size)
    (v : Value) (n : Nat) (xs : List Value) (hs : a.eval s = v) (hown : w.ownsRow base e size v n xs)
    (D : Option Addr) (m c : Nat) (news : List Value) (hx : a.eval x = .slice D m c) (hl : news.length = m * size) (hnews : ∀ j u, news[j]? = some u → ∃ ad, D = some ad ∧ w.cell? (ad.add j) = some u) (h1 : ∀ u ∈ news, u.oneCell' = true)
    (h63 : n + m ≤ maxLen) (hbytes : (n + m) * bytes ≤ 140737488355328) (hbase : base ≤ w.heap.size)
    (h : ∀ A cap w', w'.ownsRow base e size (.slice A (n + m) cap) (n + m) (xs ++ news) → w.grownBy w' v.ownBlock → (∀ k, (Value.slice A (n + m) cap).ownBlock = some k → v.ownBlock = some k ∨ w.heap.size ≤ k) → K (a.put o.dst (.slice A (n + m) cap)) w') : o.wp P a w K Q := by
  obtain ⟨A, cap, w', hr, h2, h3, h4⟩ := run_spreadG (P := P) (w := w) t o.type base e i z size bytes ht hi hz hsize hby hzs hsz v n xs hown D m c news hl hnews h1 h63 hbytes hbase
  unfold Oper.wp execOp
  simp only [ho, resolve, invoke, builtin, Sem.run_bind, Sem.run_pure, Result.andThen_ok, List.map_toArray, List.map_cons, List.map_nil, hs, hx, hr]
  exact h A cap w' h2 h3 h4

/-- Cells of a literal of one element, as an append reads them. -/
theorem news_litG {w : World} {g : Nat} {cs : List Value} {t : TypeId} (h : w.heap[g]? = some (.cells cs.toArray t (0, 0))) : ∀ j u, cs[j]? = some u → ∃ ad : Addr, (some (⟨g, 0, none⟩ : Addr)) = some ad ∧ w.cell? (ad.add j) = some u := by
  intro j u hu
  refine ⟨_, rfl, ?_⟩
  exact World.news_of_block (cs := cs.toArray) h j u (by simpa using hu)

theorem wpList_spreadI {W : World} {ops : Array Oper} {rest : List Oper} {o : Oper} {a : Act} {Q : Exit → Act → World → Prop} (hgd : o.guard = none) (s x : Operand)
    (ho : o.op = .call { callee := .builtin .append, args := #[s, x], argTypes := #[23, 23] }) (lo : Nat) (v : Value) (ls : List Int) (hs : a.eval s = v) (hown : IntSl W lo v ls)
    (D : Option Addr) (c : Nat) (xs : List Int) (hx : a.eval x = .slice D xs.length c) (hA : IntsAt W D xs) (hn : ls.length + xs.length ≤ 1048576) (hlo : lo ≤ W.heap.size)
    (h : ∀ A cap w', IntSl w' lo (.slice A (ls.length + xs.length) cap) (ls ++ xs) → W.grownBy w' v.ownBlock → (∀ k, (Value.slice A (ls.length + xs.length) cap).ownBlock = some k → v.ownBlock = some k ∨ W.heap.size ≤ k) → wpList Tryd.prog ops Q rest (a.put o.dst (.slice A (ls.length + xs.length) cap)) w') : wpList Tryd.prog ops Q (o :: rest) a W :=
  wpList_plain hgd fun _ hK => by
    obtain ⟨i0, hi, hz0, hz1, hz2⟩ := info_parts info3
    refine wp_spreadG s x 23 ho lo 3 i0 (.int .i64 0) 1 8 Tryd.underlying23 hi hz0 hz1 hz2 rfl (by decide) v ls.length (ls.map (Value.int .i64)) hs hown D xs.length c (xs.map (Value.int .i64)) hx (by simp) (fun j u hu => ?_) (ints_oneCell .i64 xs) (by unfold maxLen; omega) (by omega) hlo ?_
    · rw [List.getElem?_map] at hu
      obtain ⟨y, hy, rfl⟩ := Option.map_eq_some_iff.1 hu
      obtain ⟨b, off, e, _, h1⟩ := hA j y hy
      subst e
      exact ⟨_, rfl, by rw [add_plain]; exact h1⟩
    · intro A cap w' h1 h2 h3
      refine hK _ _ (h A cap w' ?_ h2 h3)
      unfold IntSl
      rw [List.length_append, List.map_append]
      exact h1
theorem wpList_spreadP {W : World} {ops : Array Oper} {rest : List Oper} {o : Oper} {a : Act} {Q : Exit → Act → World → Prop} (hgd : o.guard = none) (s x : Operand)
    (ho : o.op = .call { callee := .builtin .append, args := #[s, x], argTypes := #[122, 122] }) (lo : Nat) (v : Value) (ls : List Part) (hs : a.eval s = v) (hown : PartSl W lo v ls)
    (D : Option Addr) (c : Nat) (xs : List Part) (hx : a.eval x = .slice D xs.length c) (hA : PartsAt W D xs) (hn : ls.length + xs.length ≤ 1048576) (hlo : lo ≤ W.heap.size)
    (h : ∀ A cap w', PartSl w' lo (.slice A (ls.length + xs.length) cap) (ls ++ xs) → W.grownBy w' v.ownBlock → (∀ k, (Value.slice A (ls.length + xs.length) cap).ownBlock = some k → v.ownBlock = some k ∨ W.heap.size ≤ k) → wpList Tryd.prog ops Q rest (a.put o.dst (.slice A (ls.length + xs.length) cap)) w') : wpList Tryd.prog ops Q (o :: rest) a W :=
  wpList_plain hgd fun _ hK => by
    obtain ⟨i0, hi, hz0, hz1, hz2⟩ := info_parts infoP
    refine wp_spreadG s x 122 ho lo 130 i0 _ 2 16 Tryd.underlying122 hi hz0 hz1 hz2 rfl (by decide) v ls.length (partCells ls) hs hown D xs.length c (partCells xs) hx (partCells_len xs) (fun j u hu => ?_) (fun u hu => ?_) (by unfold maxLen; omega) (by omega) hlo ?_
    · have hj : j < xs.length * 2 := by rw [← partCells_len]; exact (List.getElem?_eq_some_iff.1 hu).1
      have hp := List.getElem?_eq_getElem (show j / 2 < xs.length by omega)
      obtain ⟨b, off, e, _, c0, c1⟩ := hA (j / 2) _ hp
      obtain ⟨d0, d1⟩ := partCells_at hp
      subst e
      refine ⟨_, rfl, ?_⟩
      rw [add_plain]
      rcases (by omega : j = j / 2 * 2 ∨ j = j / 2 * 2 + 1) with e | e
      · rw [e, d0] at hu
        rw [e, c0, ← hu]
      · rw [e, d1] at hu
        rw [e, ← Nat.add_assoc, c1, ← hu]
    · obtain ⟨p, _, hp⟩ := List.mem_flatMap.1 hu
      simp only [List.mem_cons, List.not_mem_nil, or_false] at hp
      rcases hp with rfl | rfl <;> rfl
    · intro A cap w' h1 h2 h3
      refine hK _ _ (h A cap w' ?_ h2 h3)
      unfold PartSl
      rw [List.length_append, show partCells (ls ++ xs) = partCells ls ++ partCells xs from by simp [partCells]]
      exact h1

set_option maxRecDepth 100000 in
set_option maxHeartbeats 400000 in
theorem cloneI_any (D : Option Addr) (c : Nat) (xs : List Int) (w : World) (hA : IntsAt w D xs) (hl : xs.length ≤ 1048576) :
    Calls Tryd.prog 75 #[.slice D xs.length c] w fun e w' => ∃ v, e = .returned v ∧ IntSl w' w.heap.size v xs ∧ Below w.heap.size w w' := by
  cases D with
  | none =>
    have hnil : xs = [] := by
      cases xs with
      | nil => rfl
      | cons p r => obtain ⟨b, off, e, _⟩ := hA 0 p rfl; cases e
    subst hnil
    have he : ∀ w : World, (binOp .eql 23 (.slice none 0 c) (.slice none 0 0)).run Tryd.prog w = .ok (.bool true) w := fun _ => rfl
    go_enter Tryd.func75, Tryd.ntmps75
    go_wp2_with fail
    go_ret
    exact ⟨_, rfl, World.ownsRow_nil _ _ _ _, Below.refl _ _⟩
  | some A =>
    have HO := hide (show IntSl (w.alloc (.cells #[] 3)) w.heap.size (.slice (some ⟨w.heap.size, 0, none⟩) 0 0) [] from World.ownsRow_lit w #[] 0 (Nat.le_refl _) (by unfold maxLen; omega) rfl)
    have HA := hide (hA.below (w' := w.alloc (.cells #[] 3)) (by go_grown))
    have he : ∀ w : World, (binOp .eql 23 (.slice (some A) xs.length c) (.slice none 0 0)).run Tryd.prog w = .ok (.bool false) w := fun _ => rfl
    clear hA
    go_enter Tryd.func75, Tryd.ntmps75
    go_wp2_with (at_builtin; refine wpList_spreadI rfl _ _ rfl w.heap.size (.slice (some ⟨w.heap.size, 0, none⟩) 0 0) [] rfl HO.out (some A) c xs rfl HA.out (by simp; omega) (by simp) ?_; intro g cap w1 hown hgrow hnew)
    have hb : Below w.heap.size w w1 := ((Below.refl _ w).alloc (Nat.le_refl _) _).grown hgrow (by simp) (by intro k hk; simp [Value.ownBlock] at hk; omega)
    simp only [List.length_nil, Nat.zero_add, List.nil_append] at hown
    go_wp2_with fail
    exact bodyPost_ret (results_tmp rfl _ _ _) rfl ⟨_, by simp, hown, hb⟩
set_option maxRecDepth 100000 in
set_option maxHeartbeats 400000 in
theorem cloneP_any (D : Option Addr) (c : Nat) (xs : List Part) (w : World) (hA : PartsAt w D xs) (hl : xs.length ≤ 1048576) :
    Calls Tryd.prog 76 #[.slice D xs.length c] w fun e w' => ∃ v, e = .returned v ∧ PartSl w' w.heap.size v xs ∧ Below w.heap.size w w' := by
  cases D with
  | none =>
    have hnil : xs = [] := by
      cases xs with
      | nil => rfl
      | cons p r => obtain ⟨b, off, e, _⟩ := hA 0 p rfl; cases e
    subst hnil
    have he : ∀ w : World, (binOp .eql 122 (.slice none 0 c) (.slice none 0 0)).run Tryd.prog w = .ok (.bool true) w := fun _ => rfl
    go_enter Tryd.func76, Tryd.ntmps76
    go_wp2_with fail
    go_ret
    exact ⟨_, rfl, World.ownsRow_nil _ _ _ _, Below.refl _ _⟩
  | some A =>
    have HO := hide (show PartSl (w.alloc (.cells #[] 130)) w.heap.size (.slice (some ⟨w.heap.size, 0, none⟩) 0 0) [] from World.ownsRow_lit w #[] 0 (Nat.le_refl _) (by unfold maxLen; omega) rfl)
    have HA := hide (hA.below (w' := w.alloc (.cells #[] 130)) (by go_grown))
    have he : ∀ w : World, (binOp .eql 122 (.slice (some A) xs.length c) (.slice none 0 0)).run Tryd.prog w = .ok (.bool false) w := fun _ => rfl
    clear hA
    go_enter Tryd.func76, Tryd.ntmps76
    go_wp2_with (at_builtin; refine wpList_spreadP rfl _ _ rfl w.heap.size (.slice (some ⟨w.heap.size, 0, none⟩) 0 0) [] rfl HO.out (some A) c xs rfl HA.out (by simp; omega) (by simp) ?_; intro g cap w1 hown hgrow hnew)
    have hb : Below w.heap.size w w1 := ((Below.refl _ w).alloc (Nat.le_refl _) _).grown hgrow (by simp) (by intro k hk; simp [Value.ownBlock] at hk; omega)
    simp only [List.length_nil, Nat.zero_add, List.nil_append] at hown
    go_wp2_with fail
    exact bodyPost_ret (results_tmp rfl _ _ _) rfl ⟨_, by simp, hown, hb⟩
end Go.Proofs.YtmepnilnlpoodaaDoor

namespace Go.Proofs.YtmepnilnlpoodaaDoor
open Go.RowKit Go.ChangeShapes Go.WideShapes Go.ChangeAt Go.Deep

/-- What the loops of siteOf know: the site, and the house that is copied. -/
structure SiteW (w wr : World) (X : Nat) (V : Nat → Value) (h : Hse) (bx : Array Value) : Prop where
  site : SiteSl wr w.heap.size X V h
  box : wr.heap[w.heap.size]? = some (.cells bx 33 (0, 0))
  below : Below w.heap.size w wr
  near : w.heap.size < X

theorem SiteW.next {w wr wr' : World} {X : Nat} {V : Nat → Value} {h : Hse} {bx : Array Value} (S : SiteW w wr X V h bx) (hb : Below wr.heap.size wr wr') : SiteW w wr' X V h bx :=
  ⟨S.site.below hb, (hb.block _ (heap_ltH S.box)).trans S.box, Go.Proofs.YtmepnilnlpoodaaDoor.next S.below hb, S.near⟩
theorem SiteW.set {w w2 : World} {X j : Nat} {V : Nat → Value} {h : Hse} {bx : Array Value} {u : Value} (hs : SiteSl (w2.setCell ⟨X, j, none⟩ u) w.heap.size X V h) (hx : w2.heap[w.heap.size]? = some (.cells bx 33 (0, 0))) (hb : Below w.heap.size w w2) (hn : w.heap.size < X) : SiteW w (w2.setCell ⟨X, j, none⟩ u) X V h bx :=
  ⟨hs, (heap_setCell_other w2 ⟨X, j, none⟩ _ u (by simp; omega)).trans hx, hb.setCell (p := ⟨X, j, none⟩) (by simp; omega) _, hn⟩
theorem SiteW.set3 {w w2 : World} {X g i : Nat} {V : Nat → Value} {h : Hse} {bx : Array Value} {a b c : Value} (hs : SiteSl (((w2.setCell ⟨g, i * 3, none⟩ a).setCell ⟨g, i * 3 + 1, none⟩ b).setCell ⟨g, i * 3 + 2, none⟩ c) w.heap.size X V h) (hx : w2.heap[w.heap.size]? = some (.cells bx 33 (0, 0))) (hb : Below w.heap.size w w2) (hn : w.heap.size < X) (hg : w.heap.size < g) :
    SiteW w (((w2.setCell ⟨g, i * 3, none⟩ a).setCell ⟨g, i * 3 + 1, none⟩ b).setCell ⟨g, i * 3 + 2, none⟩ c) X V h bx :=
  ⟨hs, (three_far (by omega)).trans hx, ((hb.setCell (p := ⟨g, i * 3, none⟩) (by simp; omega) _).setCell (p := ⟨g, i * 3 + 1, none⟩) (by simp; omega) _).setCell (p := ⟨g, i * 3 + 2, none⟩) (by simp; omega) _, hn⟩

/-- What a cell holds. -/
def cvH (W : World) (a : Addr) : Value := (W.cell? a).getD undef
theorem cvH_of {W : World} {a : Addr} {v : Value} (h : W.cell? a = some v) : W.cell? a = some (cvH W a) := by unfold cvH; rw [h]; rfl
theorem HseSl.itemAt {w : World} {lo g n c i : Nat} {V : Nat → Value} {h : Hse} (H : HseSl w lo V h) (hv : V 0 = .slice (some ⟨g, 0, none⟩) n c) (hi : i < h.items.length) :
    w.cell? ⟨g, i * 3, none⟩ = some (cvH w ⟨g, i * 3, none⟩) ∧ w.cell? ⟨g, i * 3 + 1, none⟩ = some (cvH w ⟨g, i * 3 + 1, none⟩) ∧ w.cell? ⟨g, i * 3 + 2, none⟩ = some (cvH w ⟨g, i * 3 + 2, none⟩) ∧ w.frozen? ⟨g, i * 3, none⟩ = false ∧ w.frozen? ⟨g, i * 3 + 1, none⟩ = false ∧ w.frozen? ⟨g, i * 3 + 2, none⟩ = false := by
  have hn : n = h.items.length := by obtain ⟨A, a, e⟩ := ownsRow_slice H.items; rw [hv] at e; injection e
  have ho := H.items
  rw [hv, hn] at ho
  obtain ⟨a0, a1, a2⟩ := itemCs_at (V := V) (List.getElem?_eq_getElem hi)
  exact ⟨cvH_of ((World.ownsRow.cellAt ho (i * 3) (by omega)).trans a0), cvH_of ((World.ownsRow.cellAt ho (i * 3 + 1) (by omega)).trans a1), cvH_of ((World.ownsRow.cellAt ho (i * 3 + 2) (by omega)).trans a2), World.ownsRow.frozenAt ho _, World.ownsRow.frozenAt ho _, World.ownsRow.frozenAt ho _⟩
theorem HseSl.tblAt {w : World} {lo g n c i : Nat} {V : Nat → Value} {h : Hse} (H : HseSl w lo V h) (hv : V 3 = .slice (some ⟨g, 0, none⟩) n c) (hi : i < h.tables.length) :
    w.cell? ⟨g, i * 3, none⟩ = some (cvH w ⟨g, i * 3, none⟩) ∧ w.cell? ⟨g, i * 3 + 1, none⟩ = some (cvH w ⟨g, i * 3 + 1, none⟩) ∧ w.cell? ⟨g, i * 3 + 2, none⟩ = some (cvH w ⟨g, i * 3 + 2, none⟩) ∧ w.frozen? ⟨g, i * 3, none⟩ = false ∧ w.frozen? ⟨g, i * 3 + 1, none⟩ = false ∧ w.frozen? ⟨g, i * 3 + 2, none⟩ = false := by
  have hn : n = h.tables.length := by obtain ⟨A, a, e⟩ := ownsRow_slice H.tables; rw [hv] at e; injection e
  have ho := H.tables
  rw [hv, hn] at ho
  obtain ⟨a0, a1, a2⟩ := tableCs_at (V := V) (List.getElem?_eq_getElem hi)
  exact ⟨cvH_of ((World.ownsRow.cellAt ho (i * 3) (by omega)).trans a0), cvH_of ((World.ownsRow.cellAt ho (i * 3 + 1) (by omega)).trans a1), cvH_of ((World.ownsRow.cellAt ho (i * 3 + 2) (by omega)).trans a2), World.ownsRow.frozenAt ho _, World.ownsRow.frozenAt ho _, World.ownsRow.frozenAt ho _⟩

set_option maxRecDepth 100000 in
set_option maxHeartbeats 4000000 in
theorem siteOf_any (A B C D : Option Addr) (a b c d : Nat) (h : Hse) (w : World) (hA : HseAt w A B C D h) (hl : HseLe 1048576 h) :
    Calls Tryd.prog 39 #[hseV A a B b C c D d h] w fun e w' => ∃ X V, e = .returned (.pointer (some ⟨X, 0, none⟩)) ∧ SiteSl w' w.heap.size X V h ∧ Below w.heap.size w w' := by
  have HL := hide hl
  have HA := hide hA
  have hli := hl.items
  have hlt := hl.tables
  have HM1 := hide (make_items h.items.length hli)
  have HM2 := hide (make_tbls h.tables.length hlt)
  clear hl hA
  have hba : Below w.heap.size w (w.alloc (.cells #[.slice A h.items.length a, .slice B h.prices.length b, .slice C h.stock.length c, .int .i64 h.cash, .slice D h.tables.length d] 33)) := by go_grown
  have hbx := heap_alloc_new w (.cells #[.slice A h.items.length a, .slice B h.prices.length b, .slice C h.stock.length c, .int .i64 h.cash, .slice D h.tables.length d] 33)
  go_enter Tryd.func39, Tryd.ntmps39
  go_upto_region 1 with fail
  obtain ⟨W, hW⟩ : ∃ W, w.alloc (.cells #[.slice A h.items.length a, .slice B h.prices.length b, .slice C h.stock.length c, .int .i64 h.cash, .slice D h.tables.length d] 33) = W := ⟨_, rfl⟩
  rw [hW] at hba hbx ⊢
  clear hW
  have hlt0 := heap_ltH hbx
  obtain ⟨c0, c1, c2, c3, c4⟩ := five_cells hbx
  have HS : Hid (∀ W', Below W.heap.size W W' → W'.cell? ⟨w.heap.size, 1, none⟩ = some (.slice B h.prices.length b) ∧ W'.cell? ⟨w.heap.size, 3, none⟩ = some (.int .i64 h.cash)) := hide (fun W' hb => ⟨(hb.cell hlt0).trans c1, (hb.cell hlt0).trans c3⟩)
  have HP := hide (HA.out.prices.below hba)
  have HR := hide ((Below.refl W.heap.size W).drew)
  have HX0 := hide (And.intro hba hbx)
  clear c0 c1 c2 c3 c4 hba hbx
  go_region_held3 (fun W' => W'.cell? ⟨w.heap.size, 1, none⟩ = some (.slice B h.prices.length b) ∧ W'.cell? ⟨w.heap.size, 3, none⟩ = some (.int .i64 h.cash))
    (first | exact HS.out _ HR.out | exact HS.out _ (HR.out.trans hB) | exact HS.out _ ((HR.out.trans hB).alloc hB.size _))
    (first | (go_at_call 75; refine (cloneI_any _ _ _ W.drew (id HP.out) HL.out.prices).mono ?_; rintro e W1 ⟨u, rfl, hU, hB⟩; obtain ⟨U, cu, rfl, -⟩ := IntSl.form hU))
  have hb1 := next HR.out hB
  have hbb := next HX0.out.1 hb1
  have hx1 := (hb1.block _ hlt0).trans HX0.out.2
  have hsz1 := hb1.size
  have hU' := IntSl.mono (lo' := w.heap.size) hU (by show w.heap.size ≤ W.heap.size; omega)
  have HW : Hid (SiteW w (W1.alloc (.cells #[.slice none 0 0, .slice none 0 0, .slice none 0 0, .slice U h.prices.length cu, .int .i64 h.cash] 75)) W1.heap.size (updV (fun _ => .slice none 0 0) 1 (.slice U h.prices.length cu)) ⟨[], h.prices, [], h.cash, []⟩ #[.slice A h.items.length a, .slice B h.prices.length b, .slice C h.stock.length c, .int .i64 h.cash, .slice D h.tables.length d]) := hide (by
    have hb2 : Below W1.heap.size W1 (W1.alloc (.cells #[.slice none 0 0, .slice none 0 0, .slice none 0 0, .slice U h.prices.length cu, .int .i64 h.cash] 75)) := (Below.refl _ _).alloc (Nat.le_refl _) _
    refine ⟨⟨HseSl.first h.cash (IntSl.below hU' hb2), heap_alloc_new W1 _, fun m k hk => ?_, by omega⟩, (hb2.block _ (by omega)).trans hx1, next hbb hb2, by omega⟩
    by_cases e : m = 1
    · subst e; rw [updV_same] at hk; have := (World.ownsRow.lt hU' k hk).2; omega
    · rw [updV_other _ _ e] at hk; cases hk)
  obtain ⟨V1, hV1⟩ : ∃ V1, W1.alloc (.cells #[.slice none 0 0, .slice none 0 0, .slice none 0 0, .slice U h.prices.length cu, .int .i64 h.cash] 75) = V1 := ⟨_, rfl⟩
  rw [hV1] at HW ⊢
  clear hV1 hb1 hbb hx1 hU hU' hB HP HR HS HX0 hsz1 hlt0
  obtain ⟨X, hX⟩ : ∃ X, W1.heap.size = X := ⟨_, rfl⟩
  rw [hX] at HW ⊢
  clear hX
  obtain ⟨c0, c1, c2, c3, c4⟩ := five_cells HW.out.box
  go_wp2_with fail
  refine (cloneI_any _ _ _ _ (HA.out.stock.below HW.out.below) HL.out.stock).mono ?_
  rintro e W2 ⟨u2, rfl, hU2, hB2⟩
  obtain ⟨U2, cu2, rfl, -⟩ := IntSl.form hU2
  have HW2 := hide (HW.out.next hB2)
  have d0 : W2.cell? ⟨X, 1, none⟩ = some (.slice none 0 0) := HW2.out.site.cells.2.1
  have d1 := HW2.out.site.frozen 1
  have HV2 := hide (SiteW.set (HW.out.site.setStock hB2 hU2) HW2.out.box HW2.out.below HW2.out.near)
  clear c0 c1 c2 c3 c4 HW HW2 hU2 hB2
  go_upto_region 3 with fail
  obtain ⟨V2, hV2⟩ : ∃ V2, W2.setCell ⟨X, 1, none⟩ (.slice U2 h.stock.length cu2) = V2 := ⟨_, rfl⟩
  rw [hV2] at HV2 ⊢
  clear hV2 d0 d1
  obtain ⟨c0, c1, c2, c3, c4⟩ := five_cells HV2.out.box
  have hm1 := HM1.out
  have hs2 := HV2.out.site.lt
  have hal : Below V2.heap.size V2 (V2.alloc (.cells (madeCells #[.int .i64 0, .slice none 0 0, .int .i64 0] (h.items.length * 3)) 124)) := (Below.refl _ _).alloc (Nat.le_refl _) _
  have d0 : (V2.alloc (.cells (madeCells #[.int .i64 0, .slice none 0 0, .int .i64 0] (h.items.length * 3)) 124)).cell? ⟨X, 0, none⟩ = some (.slice none 0 0) := (HV2.out.next hal).site.cells.1
  have d1 := (HV2.out.next hal).site.frozen 0
  have HV3 := hide (SiteW.set (HV2.out.site.setItems h.items.length hli (fun i => by rw [updV_other _ _ (by omega), updV_other _ _ (by omega)])) (HV2.out.next hal).box (HV2.out.next hal).below HV2.out.near)
  have hgI : w.heap.size < V2.heap.size := by have := HV2.out.near; omega
  rw [World.setCell_alloc_past _ _ _ _ hs2] at HV3
  clear HV2 hal
  go_upto_region 4 with fail
  obtain ⟨V3, hV3⟩ : ∃ V3, (V2.setCell ⟨X, 0, none⟩ (.slice (some ⟨V2.heap.size, 0, none⟩) h.items.length h.items.length)).alloc (.cells (madeCells #[.int .i64 0, .slice none 0 0, .int .i64 0] (h.items.length * 3)) 124) = V3 := ⟨_, rfl⟩
  obtain ⟨gI, hGI⟩ : ∃ gI, V2.heap.size = gI := ⟨_, rfl⟩
  rw [hV3, hGI] at HV3
  rw [hV3]
  rw [hGI] at hgI
  clear hV3 d0 d1 hm1 c0 c1 c2 c3 c4 hs2 HM1 hGI
  obtain ⟨c0, c1, c2, c3, c4⟩ := five_cells HV3.out.box
  go_wp2_with fail
  go_loopw [33] (fun iv wr => ∃ (k : Nat) (V : Nat → Value), k ≤ h.items.length ∧ iv = .int .i64 k ∧ V 0 = .slice (some ⟨gI, 0, none⟩) h.items.length h.items.length ∧ Hid (SiteW w wr X V ⟨fillG noItem h.items k, h.prices, h.stock, h.cash, []⟩ #[.slice A h.items.length a, .slice B h.prices.length b, .slice C h.stock.length c, .int .i64 h.cash, .slice D h.tables.length d]) ∧ Hid (V 3 = .slice none 0 0 ∧ ∀ i, V (5 + 3 * i) = .slice none 0 0 ∧ V (6 + 3 * i) = .slice none 0 0)) (fun iv _ => h.items.length - (intOf iv).toNat)
  case atStart => exact ⟨0, _, Nat.zero_le _, rfl, updV_same _ _ _, (by rw [fillG_zero]; exact HV3), hide ⟨by rw [updV_other _ _ (by omega), updV_other _ _ (by omega), updV_other _ _ (by omega)], fun i => ⟨by rw [updV_other _ _ (by omega), updV_other _ _ (by omega), updV_other _ _ (by omega)], by rw [updV_other _ _ (by omega), updV_other _ _ (by omega), updV_other _ _ (by omega)]⟩⟩⟩
  case round =>
    clear HV3 c0 c1 c2 c3 c4
    obtain ⟨k, V, hk, rfl, hv0, HW, HN⟩ := hrel
    by_cases hlk : k < h.items.length
    · obtain ⟨tb, off, A', a', eA, hbl, t0, t1, t2, hpa⟩ := (HA.out.items.below HW.out.below) k h.items[k] (List.getElem?_eq_getElem hlk)
      have HXk := hide (List.getElem?_eq_getElem hlk)
      have hxp := HL.out.parts _ (List.getElem_mem hlk)
      generalize h.items[k] = x at t0 t1 t2 hpa HXk hxp
      have hz : (0 : Int) ≤ k := by omega
      have hz2 : (k : Int) < h.items.length := by omega
      have hal : Below wr.heap.size wr (wr.alloc (.cells #[.int .i64 x.yield, .slice A' x.parts.length a', .int .i64 x.marks] 124)) := (Below.refl _ _).alloc (Nat.le_refl _) _
      have hby := heap_alloc_new wr (.cells #[.int .i64 x.yield, .slice A' x.parts.length a', .int .i64 x.marks] 124)
      have HWx := hide (HW.out.next hal)
      have HPx := hide (hpa.below hal)
      have hY := HW.out.site.lt
      rw [eA]
      clear hpa hal
      go_upto_region 7 with fail
      obtain ⟨Vx, hVx⟩ : ∃ Vx, wr.alloc (.cells #[.int .i64 x.yield, .slice A' x.parts.length a', .int .i64 x.marks] 124) = Vx := ⟨_, rfl⟩
      rw [hVx] at HWx HPx hby ⊢
      clear hVx t0 t1 t2
      have hgY : wr.heap.size ≠ gI := by have := (HW.out.site.own.lt 0 gI (by rw [hv0]; rfl)).2; omega
      obtain ⟨Y, hYe⟩ : ∃ Y, wr.heap.size = Y := ⟨_, rfl⟩
      rw [hYe] at hby hY hgY ⊢
      clear hYe
      have HLY := hide (heap_ltH hby)
      have HBY := hide hby
      have HR := hide ((Below.refl Vx.heap.size Vx).drew)
      have HQ : Hid (∀ (W' : World) (V' : Nat → Value) (h' : Hse), SiteSl W' w.heap.size X V' h' → V' 0 = .slice (some ⟨gI, 0, none⟩) h.items.length h.items.length → k < h'.items.length → W'.heap[Y]? = some (.cells #[.int .i64 x.yield, .slice A' x.parts.length a', .int .i64 x.marks] 124 (0, 0)) →
          (W'.cell? ⟨X, 0, none⟩ = some (.slice (some ⟨gI, 0, none⟩) h.items.length h.items.length) ∧ W'.cell? ⟨Y, 0, none⟩ = some (.int .i64 x.yield) ∧ W'.cell? ⟨Y, 1, none⟩ = some (.slice A' x.parts.length a') ∧ W'.cell? ⟨Y, 2, none⟩ = some (.int .i64 x.marks)) ∧
          W'.cell? ⟨gI, k * 3, none⟩ = some (cvH W' ⟨gI, k * 3, none⟩) ∧ W'.cell? ⟨gI, k * 3 + 1, none⟩ = some (cvH W' ⟨gI, k * 3 + 1, none⟩) ∧ W'.cell? ⟨gI, k * 3 + 2, none⟩ = some (cvH W' ⟨gI, k * 3 + 2, none⟩) ∧ W'.frozen? ⟨gI, k * 3, none⟩ = false ∧ W'.frozen? ⟨gI, k * 3 + 1, none⟩ = false ∧ W'.frozen? ⟨gI, k * 3 + 2, none⟩ = false) := hide (fun W' V' h' hS hv hk' hb => by
        obtain ⟨q0, q1, q2⟩ := box3H hb
        refine ⟨⟨?_, q0, q1, q2⟩, hS.own.itemAt hv hk'⟩
        rw [hS.cells.1, hv])
      have HQ1 : Hid (∀ W', Below Vx.heap.size Vx W' → _) := hide (fun W' hb => HQ.out W' V _ (HWx.out.site.below hb) hv0 (by show k < (fillG noItem h.items k).length; rw [fillG_len]; exact hlk) ((hb.block Y HLY.out).trans HBY.out))
      have HQ3 : Hid (∀ W' u, Below Vx.heap.size Vx W' → PartSl W' Vx.heap.size u x.parts → SiteSl (((W'.setCell ⟨gI, k * 3, none⟩ (.int .i64 x.yield)).setCell ⟨gI, k * 3 + 1, none⟩ u).setCell ⟨gI, k * 3 + 2, none⟩ (.int .i64 x.marks)) w.heap.size X (updV V (4 + 3 * k) u) ⟨fillG noItem h.items (k + 1), h.prices, h.stock, h.cash, []⟩) := hide (fun W' u hb hu => by
        have := HWx.out.site.putItem (i := k) (by show k < (fillG noItem h.items k).length; rw [fillG_len]; exact hlk) hv0 hb x hu
        rw [← fillG_set noItem HXk.out]
        exact this)
      have HQ4 : Hid (∀ W' u, Below Vx.heap.size Vx W' → PartSl W' Vx.heap.size u x.parts → _) := hide (fun W' u hb hu => HQ.out _ _ _ (HQ3.out W' u hb hu) ((updV_other _ _ (by omega)).trans hv0) (by show k < (fillG noItem h.items (k + 1)).length; rw [fillG_len]; exact hlk) ((three_far hgY).trans ((hb.block Y HLY.out).trans HBY.out)))
      clear hby
      go_region_held3 (fun W' => (W'.cell? ⟨X, 0, none⟩ = some (.slice (some ⟨gI, 0, none⟩) h.items.length h.items.length) ∧ W'.cell? ⟨Y, 0, none⟩ = some (.int .i64 x.yield) ∧ W'.cell? ⟨Y, 1, none⟩ = some (.slice A' x.parts.length a') ∧ W'.cell? ⟨Y, 2, none⟩ = some (.int .i64 x.marks)) ∧
          W'.cell? ⟨gI, k * 3, none⟩ = some (cvH W' ⟨gI, k * 3, none⟩) ∧ W'.cell? ⟨gI, k * 3 + 1, none⟩ = some (cvH W' ⟨gI, k * 3 + 1, none⟩) ∧ W'.cell? ⟨gI, k * 3 + 2, none⟩ = some (cvH W' ⟨gI, k * 3 + 2, none⟩) ∧ W'.frozen? ⟨gI, k * 3, none⟩ = false ∧ W'.frozen? ⟨gI, k * 3 + 1, none⟩ = false ∧ W'.frozen? ⟨gI, k * 3 + 2, none⟩ = false)
        (first | exact HQ1.out _ HR.out | exact HQ1.out _ (next HR.out hB) | exact HQ4.out _ _ (next HR.out hB) hU)
        (first | (go_at_call 76; refine (cloneP_any _ _ _ Vx.drew (id HPx.out) hxp).mono ?_; rintro e W1 ⟨u, rfl, hU, hB⟩; obtain ⟨U, cu, rfl, -⟩ := PartSl.form hU))
      have HF := hide (SiteW.set3 (HQ3.out W1 _ (next HR.out hB) hU) (HWx.out.next (next HR.out hB)).box (HWx.out.next (next HR.out hB)).below HWx.out.near hgI)
      have HN2 := hide (show updV V (4 + 3 * k) (.slice U x.parts.length cu) 3 = .slice none 0 0 ∧ ∀ i, updV V (4 + 3 * k) (.slice U x.parts.length cu) (5 + 3 * i) = .slice none 0 0 ∧ updV V (4 + 3 * k) (.slice U x.parts.length cu) (6 + 3 * i) = .slice none 0 0 from ⟨(updV_other _ _ (by omega)).trans HN.out.1, fun i => ⟨(updV_other _ _ (by omega)).trans (HN.out.2 i).1, (updV_other _ _ (by omega)).trans (HN.out.2 i).2⟩⟩)
      clear HQ HQ1 HQ3 HQ4 hU hB
      go_wp2_with fail
      go_roundw
      case rel => exact ⟨k + 1, _, hlk, by go_num, (updV_other _ _ (by omega)).trans hv0, (by rw [eA] at HF; exact HF), HN2⟩
      case measure => simp [intOf]; omega
    · have HI : Hid (SiteW w wr X V ⟨h.items, h.prices, h.stock, h.cash, []⟩ #[.slice A h.items.length a, .slice B h.prices.length b, .slice C h.stock.length c, .int .i64 h.cash, .slice D h.tables.length d]) := hide (by have := HW.out; rw [fillG_all noItem (by omega)] at this; exact this)
      clear HW
      obtain ⟨wo, ho⟩ : ∃ wo, wo = wr := ⟨_, rfl⟩
      subst ho
      obtain ⟨c0, c1, c2, c3, c4⟩ := five_cells HI.out.box
      have hm2 := HM2.out
      have hs2 := HI.out.site.lt
      have hal : Below wo.heap.size wo (wo.alloc (.cells (madeCells #[.int .i64 0, .slice none 0 0, .slice none 0 0] (h.tables.length * 3)) 115)) := (Below.refl _ _).alloc (Nat.le_refl _) _
      have d0 : (wo.alloc (.cells (madeCells #[.int .i64 0, .slice none 0 0, .slice none 0 0] (h.tables.length * 3)) 115)).cell? ⟨X, 2, none⟩ = some (.slice none 0 0) := by rw [(HI.out.next hal).site.cells.2.2.1, HN.out.1]
      have d1 := (HI.out.next hal).site.frozen 2
      have HV4 := hide (SiteW.set (HI.out.site.setTables h.tables.length hlt HN.out.2) (HI.out.next hal).box (HI.out.next hal).below HI.out.near)
      have hgT : w.heap.size < wo.heap.size := by have := HI.out.near; omega
      rw [World.setCell_alloc_past _ _ _ _ hs2] at HV4
      clear HI hal
      go_upto_region 10 with fail
      obtain ⟨V4, hV4⟩ : ∃ V4, (wo.setCell ⟨X, 2, none⟩ (.slice (some ⟨wo.heap.size, 0, none⟩) h.tables.length h.tables.length)).alloc (.cells (madeCells #[.int .i64 0, .slice none 0 0, .slice none 0 0] (h.tables.length * 3)) 115) = V4 := ⟨_, rfl⟩
      obtain ⟨gT, hGT⟩ : ∃ gT, wo.heap.size = gT := ⟨_, rfl⟩
      rw [hV4, hGT] at HV4
      rw [hV4]
      rw [hGT] at hgT
      clear hV4 d0 d1 hm2 c0 c1 c2 c3 c4 hs2 hGT
      obtain ⟨c0, c1, c2, c3, c4⟩ := five_cells HV4.out.box
      go_wp2_with fail
      go_loopw [65] (fun iv wr => ∃ (k : Nat) (V : Nat → Value), k ≤ h.tables.length ∧ iv = .int .i64 k ∧ V 3 = .slice (some ⟨gT, 0, none⟩) h.tables.length h.tables.length ∧ Hid (SiteW w wr X V ⟨h.items, h.prices, h.stock, h.cash, fillG noTbl h.tables k⟩ #[.slice A h.items.length a, .slice B h.prices.length b, .slice C h.stock.length c, .int .i64 h.cash, .slice D h.tables.length d])) (fun iv _ => h.tables.length - (intOf iv).toNat)
      case atStart => exact ⟨0, _, Nat.zero_le _, rfl, updV_same _ _ _, (by rw [fillG_zero]; exact HV4)⟩
      case round =>
        clear HV4 c0 c1 c2 c3 c4 HN hv0
        obtain ⟨k, V, hk, rfl, hv0, HW⟩ := hrel
        by_cases hlk : k < h.tables.length
        · obtain ⟨tb, off, A', a', B', b', eD, hbl, t0, t1, t2, hda, hoa⟩ := (HA.out.tables.below HW.out.below) k h.tables[k] (List.getElem?_eq_getElem hlk)
          have HXk := hide (List.getElem?_eq_getElem hlk)
          obtain ⟨hxd, hxo⟩ := HL.out.rows _ (List.getElem_mem hlk)
          generalize h.tables[k] = x at t0 t1 t2 hda hoa HXk hxd hxo
          have hz : (0 : Int) ≤ k := by omega
          have hz2 : (k : Int) < h.tables.length := by omega
          have hal : Below wr.heap.size wr (wr.alloc (.cells #[.int .i64 x.avoid, .slice A' x.dishes.length a', .slice B' x.of.length b'] 115)) := (Below.refl _ _).alloc (Nat.le_refl _) _
          have hby := heap_alloc_new wr (.cells #[.int .i64 x.avoid, .slice A' x.dishes.length a', .slice B' x.of.length b'] 115)
          have HWx := hide (HW.out.next hal)
          have HDx := hide (hda.below hal)
          have HOx := hide (hoa.below hal)
          have hgY : wr.heap.size ≠ gT := by have := (HW.out.site.own.lt 3 gT (by rw [hv0]; rfl)).2; omega
          rw [eD]
          clear hda hoa hal
          go_upto_region 13 with fail
          obtain ⟨Vx, hVx⟩ : ∃ Vx, wr.alloc (.cells #[.int .i64 x.avoid, .slice A' x.dishes.length a', .slice B' x.of.length b'] 115) = Vx := ⟨_, rfl⟩
          rw [hVx] at HWx HDx HOx hby ⊢
          clear hVx t0 t1 t2
          obtain ⟨Y, hYe⟩ : ∃ Y, wr.heap.size = Y := ⟨_, rfl⟩
          rw [hYe] at hby hgY ⊢
          clear hYe
          have HLY := hide (heap_ltH hby)
          have HBY := hide hby
          have HR := hide ((Below.refl Vx.heap.size Vx).drew)
          have HQ : Hid (∀ (W' : World) (V' : Nat → Value) (h' : Hse), SiteSl W' w.heap.size X V' h' → V' 3 = .slice (some ⟨gT, 0, none⟩) h.tables.length h.tables.length → k < h'.tables.length → W'.heap[Y]? = some (.cells #[.int .i64 x.avoid, .slice A' x.dishes.length a', .slice B' x.of.length b'] 115 (0, 0)) →
              (W'.cell? ⟨X, 2, none⟩ = some (.slice (some ⟨gT, 0, none⟩) h.tables.length h.tables.length) ∧ W'.cell? ⟨Y, 0, none⟩ = some (.int .i64 x.avoid) ∧ W'.cell? ⟨Y, 1, none⟩ = some (.slice A' x.dishes.length a') ∧ W'.cell? ⟨Y, 2, none⟩ = some (.slice B' x.of.length b')) ∧
              W'.cell? ⟨gT, k * 3, none⟩ = some (cvH W' ⟨gT, k * 3, none⟩) ∧ W'.cell? ⟨gT, k * 3 + 1, none⟩ = some (cvH W' ⟨gT, k * 3 + 1, none⟩) ∧ W'.cell? ⟨gT, k * 3 + 2, none⟩ = some (cvH W' ⟨gT, k * 3 + 2, none⟩) ∧ W'.frozen? ⟨gT, k * 3, none⟩ = false ∧ W'.frozen? ⟨gT, k * 3 + 1, none⟩ = false ∧ W'.frozen? ⟨gT, k * 3 + 2, none⟩ = false) := hide (fun W' V' h' hS hv hk' hb => by
            obtain ⟨q0, q1, q2⟩ := box3H hb
            refine ⟨⟨?_, q0, q1, q2⟩, hS.own.tblAt hv hk'⟩
            rw [hS.cells.2.2.1, hv])
          have HQ1 : Hid (∀ W', Below Vx.heap.size Vx W' → _) := hide (fun W' hb => HQ.out W' V _ (HWx.out.site.below hb) hv0 (by show k < (fillG noTbl h.tables k).length; rw [fillG_len]; exact hlk) ((hb.block Y HLY.out).trans HBY.out))
          have HQ3 : Hid (∀ W' u v, Below Vx.heap.size Vx W' → OrderSl W' Vx.heap.size u x.dishes → IntSl W' Vx.heap.size v x.of → SiteSl (((W'.setCell ⟨gT, k * 3, none⟩ (.int .i64 x.avoid)).setCell ⟨gT, k * 3 + 1, none⟩ u).setCell ⟨gT, k * 3 + 2, none⟩ v) w.heap.size X (updV (updV V (5 + 3 * k) u) (6 + 3 * k) v) ⟨h.items, h.prices, h.stock, h.cash, fillG noTbl h.tables (k + 1)⟩) := hide (fun W' u v hb hu hv => by
            have := HWx.out.site.putTable (i := k) (by show k < (fillG noTbl h.tables k).length; rw [fillG_len]; exact hlk) hv0 hb x hu hv
            rw [← fillG_set noTbl HXk.out]
            exact this)
          have hvV : ∀ u v, updV (updV V (5 + 3 * k) u) (6 + 3 * k) v 3 = .slice (some ⟨gT, 0, none⟩) h.tables.length h.tables.length := fun u v => (updV_other _ _ (by omega)).trans ((updV_other _ _ (by omega)).trans hv0)
          have HQ4 : Hid (∀ W' u v, Below Vx.heap.size Vx W' → OrderSl W' Vx.heap.size u x.dishes → IntSl W' Vx.heap.size v x.of → _) := hide (fun W' u v hb hu hv => HQ.out _ _ _ (HQ3.out W' u v hb hu hv) (hvV u v) (by show k < (fillG noTbl h.tables (k + 1)).length; rw [fillG_len]; exact hlk) ((three_far hgY).trans ((hb.block Y HLY.out).trans HBY.out)))
          have HHV := hide hvV
          clear hby hvV
          go_region_held3 (fun W' => (W'.cell? ⟨X, 2, none⟩ = some (.slice (some ⟨gT, 0, none⟩) h.tables.length h.tables.length) ∧ W'.cell? ⟨Y, 0, none⟩ = some (.int .i64 x.avoid) ∧ W'.cell? ⟨Y, 1, none⟩ = some (.slice A' x.dishes.length a') ∧ W'.cell? ⟨Y, 2, none⟩ = some (.slice B' x.of.length b')) ∧
              W'.cell? ⟨gT, k * 3, none⟩ = some (cvH W' ⟨gT, k * 3, none⟩) ∧ W'.cell? ⟨gT, k * 3 + 1, none⟩ = some (cvH W' ⟨gT, k * 3 + 1, none⟩) ∧ W'.cell? ⟨gT, k * 3 + 2, none⟩ = some (cvH W' ⟨gT, k * 3 + 2, none⟩) ∧ W'.frozen? ⟨gT, k * 3, none⟩ = false ∧ W'.frozen? ⟨gT, k * 3 + 1, none⟩ = false ∧ W'.frozen? ⟨gT, k * 3 + 2, none⟩ = false)
            (first | exact HQ1.out _ HR.out | exact HQ1.out _ hBT | exact HQ1.out _ hBC | exact HQ1.out _ hBC2 | exact HQ1.out _ hBT2 | exact HQ4.out _ _ _ hBC2 hT2 hC2 | exact HQ4.out _ _ _ hBT2 hT2 hC2)
            (first
              | (go_at_call 77; refine (copyTicket_any _ _ _ Vx.drew (id HDx.out) hxd).mono ?_; rintro e WT ⟨u, rfl, hT, hBT⟩; obtain ⟨T, ct, rfl, -⟩ := OrderSl.form hT; have hBT := next HR.out hBT)
              | (go_at_call 75; refine (cloneI_any _ _ _ Vx.drew (id HOx.out) hxo).mono ?_; rintro e WC ⟨v, rfl, hC, hBC⟩; obtain ⟨U, cu, rfl, -⟩ := IntSl.form hC; have hBC := next HR.out hBC)
              | (go_at_call 75; refine (cloneI_any _ _ _ WT (HOx.out.below hBT) hxo).mono ?_; rintro e WC ⟨v, rfl, hC, hBC⟩; obtain ⟨U, cu, rfl, -⟩ := IntSl.form hC; have hT2 := hT.below hBC; have hC2 := IntSl.mono hC hBT.size; have hBC2 := next hBT hBC)
              | (go_at_call 77; refine (copyTicket_any _ _ _ WC (HDx.out.below hBC) hxd).mono ?_; rintro e WT ⟨u, rfl, hT, hBT⟩; obtain ⟨T, ct, rfl, -⟩ := OrderSl.form hT; have hC2 := IntSl.below hC hBT; have hT2 := ownsRow_monoH hT hBC.size; have hBT2 := next hBC hBT))
          all_goals
            first
              | have HF := hide (SiteW.set3 (HQ3.out WC _ _ hBC2 hT2 hC2) (HWx.out.next hBC2).box (HWx.out.next hBC2).below HWx.out.near hgT)
              | have HF := hide (SiteW.set3 (HQ3.out WT _ _ hBT2 hT2 hC2) (HWx.out.next hBT2).box (HWx.out.next hBT2).below HWx.out.near hgT)
            rw [eD] at HF
            have HVV := hide (HHV.out (.slice T x.dishes.length ct) (.slice U x.of.length cu))
            clear HQ HQ1 HQ3 HQ4
            go_wp2_with fail
            go_roundw
            case rel => first | exact ⟨k + 1, _, hlk, by go_num, HVV.out, HF⟩ | exact ⟨⟨k + 1, _, hlk, by go_num, HVV.out, HF⟩, rfl⟩ | ((repeat apply Exists.intro); exact ⟨⟨hlk, by go_num, HVV.out, HF⟩, rfl⟩)
            case measure => simp [intOf]; omega
        · have HE : Hid (SiteSl wr w.heap.size X V h) := hide (by have := HW.out.site; rw [fillG_all noTbl (by omega)] at this; exact this)
          have HB := hide HW.out.below
          clear HW
          go_wp2_with fail
          go_ret
          exact ⟨X, V, rfl, HE.out, HB.out⟩
end Go.Proofs.YtmepnilnlpoodaaDoor

namespace Go.Proofs.YtmepnilnlpoodaaDoor
open Go.RowKit Go.ChangeShapes Go.WideShapes Go.ChangeAt Go.Deep

/-- A row of tickets that lie elsewhere. -/
def KitSl (w : World) (lo : Nat) (v : Value) (rows : List (List Order)) : Prop :=
  ∃ vs : List Value, w.ownsRow lo 113 1 v rows.length vs ∧ ∀ (i : Nat) (x : List Order), rows[i]? = some x → ∃ A c, vs[i]? = some (.slice A x.length c) ∧ OrdersAt w A x
theorem KitSl.below {w w' : World} {lo : Nat} {v : Value} {rows : List (List Order)} (h : KitSl w lo v rows) (hb : Below w.heap.size w w') : KitSl w' lo v rows := by
  obtain ⟨vs, h1, h2⟩ := h
  refine ⟨vs, ownsRow_below h1 hb, fun i x hx => ?_⟩
  obtain ⟨A, c, e, ho⟩ := h2 i x hx
  exact ⟨A, c, e, ho.below hb⟩
theorem KitSl.form {w : World} {lo : Nat} {v : Value} {rows : List (List Order)} (h : KitSl w lo v rows) : ∃ A c, v = .slice A rows.length c ∧ TicksAt w A rows := by
  obtain ⟨vs, h1, h2⟩ := h
  have hlt := h1.lt
  rcases h1.2 with ⟨hv, hn⟩ | ⟨g, cap, cur, hv, _⟩
  · have : rows = [] := List.eq_nil_of_length_eq_zero hn
    subst this
    exact ⟨none, 0, hv, fun i x hx => by simp at hx⟩
  · refine ⟨some ⟨g, 0, none⟩, cap, hv, fun i p hp => ?_⟩
    subst hv
    have hi : i < rows.length := (List.getElem?_eq_some_iff.1 hp).1
    obtain ⟨A', c', e, hI⟩ := h2 i p hp
    refine ⟨g, 0, A', c', rfl, (hlt g rfl).2, ?_, hI⟩
    rw [Nat.zero_add, World.ownsRow.cellAt h1 i (by omega)]
    exact e
/-- Tickets that lie in an older world. -/
def KitB (W0 w : World) (lo : Nat) (v : Value) (rows : List (List Order)) : Prop :=
  ∃ vs : List Value, w.ownsRow lo 113 1 v rows.length vs ∧ ∀ (i : Nat) (x : List Order), rows[i]? = some x → ∃ A c, vs[i]? = some (.slice A x.length c) ∧ OrdersAt W0 A x
theorem KitB.sl {W0 w : World} {lo : Nat} {v : Value} {rows : List (List Order)} (h : KitB W0 w lo v rows) (hb : Below W0.heap.size W0 w) : KitSl w lo v rows := by
  obtain ⟨vs, h1, h2⟩ := h
  refine ⟨vs, h1, fun i x hx => ?_⟩
  obtain ⟨A, c, e, ho⟩ := h2 i x hx
  exact ⟨A, c, e, ho.below hb⟩
theorem KitB.made {W0 w : World} {lo : Nat} (hlo : lo ≤ w.heap.size) (n : Nat) (hn : n ≤ 1048576) : KitB W0 (w.alloc (.cells (madeCells #[.slice none 0 0] n) 113)) lo (.slice (some ⟨w.heap.size, 0, none⟩) n n) (List.replicate n []) := by
  refine ⟨List.replicate n (.slice none 0 0), ?_, fun i x hx => ?_⟩
  · rw [List.length_replicate, ← toList_madeCells_one]
    exact World.ownsRow_lit w _ n hlo (by unfold maxLen; omega) (by simp [madeCells])
  · obtain rfl := range_rep hx
    have hi : i < n := by have := (List.getElem?_eq_some_iff.1 hx).1; simpa using this
    exact ⟨none, 0, by rw [List.getElem?_replicate, if_pos hi]; rfl, OrdersAt.nil _ _⟩
theorem KitB.kept {W0 w w' : World} {lo : Nat} {v : Value} {rows : List (List Order)} (h : KitB W0 w lo v rows) (hk : ∀ k, v.ownBlock = some k → w'.heap[k]? = w.heap[k]?) : KitB W0 w' lo v rows := by
  obtain ⟨vs, h1, h2⟩ := h
  exact ⟨vs, ownsRow_keepH h1 hk, h2⟩
theorem KitB.put {W0 w : World} {lo g c : Nat} {rows : List (List Order)} (h : KitB W0 w lo (.slice (some ⟨g, 0, none⟩) rows.length c) rows) (k : Nat) (hk : k < rows.length) {A : Option Addr} {d : Nat} {x : List Order} (hx : OrdersAt W0 A x) :
    KitB W0 (w.setCell ⟨g, k, none⟩ (.slice A x.length d)) lo (.slice (some ⟨g, 0, none⟩) rows.length c) (rows.set k x) := by
  obtain ⟨vs, h1, h2⟩ := h
  have st := World.ownsRow.stored h1 k (.slice A x.length d)
  have hlen : vs.length = rows.length := by have := h1.1; omega
  refine ⟨vs.set k (.slice A x.length d), by rw [List.length_set]; exact st.1, fun i y hy => ?_⟩
  by_cases e : i = k
  · subst e
    rw [List.getElem?_set_self hk] at hy
    injection hy with hy
    subst hy
    exact ⟨A, d, List.getElem?_set_self (by omega), hx⟩
  · rw [List.getElem?_set_ne (fun e' => e e'.symm)] at hy
    obtain ⟨A', c', e2, ho⟩ := h2 i y hy
    exact ⟨A', c', by rw [List.getElem?_set_ne (fun e' => e e'.symm)]; exact e2, ho⟩
theorem KitB.cell {W0 w : World} {lo g n c : Nat} {rows : List (List Order)} (h : KitB W0 w lo (.slice (some ⟨g, 0, none⟩) n c) rows) (hn : n = rows.length) (j : Nat) (hj : j < rows.length) : (∃ u, w.cell? ⟨g, j, none⟩ = some u) ∧ w.frozen? ⟨g, j, none⟩ = false ∧ lo ≤ g ∧ g < w.heap.size := by
  subst hn
  obtain ⟨vs, h1, _⟩ := h
  have hlen : vs.length = rows.length := by have := h1.1; omega
  exact ⟨⟨vs[j], by rw [World.ownsRow.cellAt h1 j (by omega)]; exact List.getElem?_eq_getElem (by omega)⟩, World.ownsRow.frozenAt h1 j, (h1.lt g rfl).1, (h1.lt g rfl).2⟩
theorem ticketsL_len (h : Hse) : (ticketsL h).length = h.tables.length := by simp [ticketsL]
theorem ticketsL_at {h : Hse} {i : Nat} {x : Tbl} (hx : h.tables[i]? = some x) : (ticketsL h)[i]? = some x.dishes := by simp [ticketsL, hx]
theorem tickets_le {h : Hse} {m : Nat} (hl : HseLe m h) : (ticketsL h).length ≤ m ∧ ∀ x ∈ ticketsL h, x.length ≤ m :=
  ⟨by rw [ticketsL_len]; exact hl.tables, fun t ht => by
    obtain ⟨x, hx, rfl⟩ := List.mem_map.1 ht
    exact (hl.rows x hx).1⟩

set_option maxRecDepth 100000 in
set_option maxHeartbeats 4000000 in
theorem kitchen_any (X : Nat) (D : Option Addr) (d : Nat) (h : Hse) (w : World) (hc : w.cell? ⟨X, 2, none⟩ = some (.slice D h.tables.length d)) (hT : TblsAt w D h.tables) (hl : HseLe 1048576 h) :
    Calls Tryd.prog 79 #[.pointer (some ⟨X, 2, none⟩)] w fun e w' => ∃ A c, e = .returned (.slice A (ticketsL h).length c) ∧ TicksAt w' A (ticketsL h) ∧ Below w.heap.size w w' := by
  have HL := hide hl
  have hlt := hl.tables
  have HT := hide hT
  have hmk := make_ticks h.tables.length hlt
  have HK := hide (KitB.made (W0 := w) (Nat.le_refl w.heap.size) h.tables.length hlt)
  have hbA : Below w.heap.size w (w.alloc (.cells (madeCells #[.slice none 0 0] h.tables.length) 113)) := (Below.refl _ _).alloc (Nat.le_refl _) _
  have hcA : (w.alloc (.cells (madeCells #[.slice none 0 0] h.tables.length) 113)).cell? ⟨X, 2, none⟩ = some (.slice D h.tables.length d) := (hbA.cell (cell_lt hc).1).trans hc
  clear hl hT
  go_enter Tryd.func79, Tryd.ntmps79
  go_wp2_with fail
  clear hmk
  go_loopw [17] (fun iv wr => ∃ k : Nat, k ≤ h.tables.length ∧ iv = .int .i64 k ∧ Hid (KitB w wr w.heap.size (.slice (some ⟨w.heap.size, 0, none⟩) h.tables.length h.tables.length) (fillG [] (ticketsL h) k)) ∧ Hid (Below w.heap.size w wr)) (fun iv _ => h.tables.length - (intOf iv).toNat)
  case atStart => exact ⟨0, Nat.zero_le _, rfl, hide (by rw [fillG_zero, ticketsL_len]; exact HK.out), hide hbA⟩
  case round =>
    clear HK hcA hbA
    obtain ⟨k, hk, rfl, HK, HB⟩ := hrel
    by_cases hlk : k < h.tables.length
    · obtain ⟨tb, off, A', a', B', b', eD, hbl, t0, t1, t2, hda, hoa⟩ := (HT.out.below HB.out) k h.tables[k] (List.getElem?_eq_getElem hlk)
      obtain ⟨tb', off', A2, a2, B2, b2, eD2, hbl2, _, t12, _, hda2, _⟩ := HT.out k h.tables[k] (List.getElem?_eq_getElem hlk)
      have HXk := hide (ticketsL_at (List.getElem?_eq_getElem hlk))
      rw [eD] at eD2
      injection eD2 with eD2
      injection eD2 with eb eo
      subst eb eo
      have e1 : A' = A2 := by
        rw [HB.out.cell hbl2, t12] at t1
        injection t1 with t1
        injection t1 with t1
        exact t1.symm
      subst e1
      generalize h.tables[k] = x at t0 t1 t2 hda hoa HXk t12 hda2
      have hz : (0 : Int) ≤ k := by omega
      have hz2 : (k : Int) < h.tables.length := by omega
      obtain ⟨⟨u0, q0⟩, q1, q2, q3⟩ := HK.out.cell (by rw [fillG_len, ticketsL_len]) k (by rw [fillG_len, ticketsL_len]; exact hlk)
      have HK2 : Hid (KitB w (wr.setCell ⟨w.heap.size, k, none⟩ (.slice A' x.dishes.length a')) w.heap.size (.slice (some ⟨w.heap.size, 0, none⟩) h.tables.length h.tables.length) (fillG [] (ticketsL h) (k + 1))) := hide (by
        rw [← fillG_set [] HXk.out]
        have h0 : KitB w wr w.heap.size (.slice (some ⟨w.heap.size, 0, none⟩) (fillG [] (ticketsL h) k).length h.tables.length) (fillG [] (ticketsL h) k) := by rw [fillG_len, ticketsL_len]; exact HK.out
        have h1 := h0.put (d := a') k (by rw [fillG_len, ticketsL_len]; exact hlk) hda2
        rw [fillG_len, ticketsL_len] at h1
        exact h1)
      have HB2 := hide (HB.out.setCell (p := ⟨w.heap.size, k, none⟩) (Nat.le_refl _) (.slice A' x.dishes.length a'))
      rw [eD]
      clear hda hoa hda2 t12 HK
      go_wp2_with fail
      go_roundw
      case rel => exact ⟨k + 1, hlk, by go_num, hide (HK2.out.kept (fun j hj => by
          injection hj with hj
          have hj : w.heap.size = j := hj
          subst hj
          exact heap_alloc_old _ _ (by rw [World.size_setCell]; exact q3))), hide (HB2.out.alloc (by rw [World.size_setCell]; exact HB.out.size) _)⟩
      case measure => simp [intOf]; omega
    · have HE : Hid (KitB w wr w.heap.size (.slice (some ⟨w.heap.size, 0, none⟩) h.tables.length h.tables.length) (ticketsL h)) := hide (by have := HK.out; rw [fillG_all [] (by rw [ticketsL_len]; omega)] at this; exact this)
      clear HK
      go_wp2_with fail
      obtain ⟨A, c, e, hA⟩ := (HE.out.sl HB.out).form
      refine bodyPost_ret (results_tmp rfl _ _ _) rfl ⟨A, c, by rw [← e]; rfl, hA, HB.out⟩

set_option maxRecDepth 100000 in
set_option maxHeartbeats 4000000 in
theorem workLeft_any (X : Nat) (D : Option Addr) (d : Nat) (h : Hse) (w : World) (hc : w.cell? ⟨X, 2, none⟩ = some (.slice D h.tables.length d)) (hT : TblsAt w D h.tables) (hl : HseLe 1048576 h) (hTP : PiecesAt w) :
    Calls Tryd.prog 40 #[.pointer (some ⟨X, 2, none⟩)] w fun e w' => e = .returned (.int .i64 (workLeftL (ticketsL h))) ∧ Below w.heap.size w w' := by
  obtain ⟨htl, htr⟩ := tickets_le hl
  have HR := hide htr
  go_enter Tryd.func40, Tryd.ntmps40
  go_wp2_with fail
  refine (kitchen_any X D d h _ hc hT hl).mono ?_
  rintro e w1 ⟨A, c, rfl, hA, hB⟩
  clear htr
  go_wp2_with fail
  refine (implWorkLeft_any _ _ _ _ hA htl HR.out (hTP.below hB)).mono ?_
  rintro e w2 ⟨rfl, hB2⟩
  go_wp2_with fail
  go_ret
  exact ⟨rfl, next hB hB2⟩

theorem wpList_push_kit {W0 W : World} {ops : Array Oper} {rest : List Oper} {o : Oper} {a : Act} {Q : Exit → Act → World → Prop} (hgd : o.guard = none) (s x : Operand)
    (ho : o.op = .call { callee := .builtin .append, args := #[s, x], argTypes := #[62, 62] }) (lo : Nat) (v : Value) (rows : List (List Order)) (hs : a.eval s = v) (hown : KitB W0 W lo v rows) (g : Nat) (A : Option Addr) (d : Nat) (t : List Order)
    (hx : a.eval x = .slice (some ⟨g, 0, none⟩) 1 1) (hg : W.heap[g]? = some (.cells #[.slice A t.length d] 113 (0, 0))) (ht : OrdersAt W0 A t) (hn : rows.length ≤ 1048576) (hlo : lo ≤ W.heap.size)
    (h : ∀ g' cap w', KitB W0 w' lo (.slice (some ⟨g', 0, none⟩) (rows.length + 1) cap) (rows ++ [t]) → W.grownBy w' v.ownBlock → wpList Tryd.prog ops Q rest (a.put o.dst (.slice (some ⟨g', 0, none⟩) (rows.length + 1) cap)) w') :
    wpList Tryd.prog ops Q (o :: rest) a W := by
  obtain ⟨i0, hi, hz0, hz1, hz2⟩ := info_parts infoTick
  obtain ⟨vs, h1, h2⟩ := hown
  have hlen : vs.length = rows.length := by have := h1.1; omega
  refine wpList_append_lies W hgd s x 62 ho lo 113 i0 _ 1 24 Tryd.underlying62 hi hz0 hz1 hz2 rfl (by decide) v rows.length vs hs h1 ⟨g, 0, none⟩ 1 1 [.slice A t.length d] hx rfl
    (World.news_of_block (cs := #[.slice A t.length d]) hg) (by simp [Value.oneCell']) (by decide) (by unfold maxLen; omega) (by omega) hlo _ rfl ?_
  intro g' cap w' h3 h4 _ _
  refine h g' cap w' ⟨_, by rw [List.length_append]; exact h3, fun i y hy => ?_⟩ h4
  by_cases hi : i < rows.length
  · rw [List.getElem?_append_left hi] at hy
    obtain ⟨A', c', e, ho⟩ := h2 i y hy
    exact ⟨A', c', by rw [List.getElem?_append_left (by omega)]; exact e, ho⟩
  · have hil : i = rows.length := by have := (List.getElem?_eq_some_iff.1 hy).1; simp at this; omega
    subst hil
    obtain rfl : t = y := by simpa using hy
    exact ⟨A, d, by rw [List.getElem?_append_right (by omega), hlen, Nat.sub_self]; rfl, ht⟩

set_option maxRecDepth 100000 in
set_option maxHeartbeats 4000000 in
theorem l7Tickets_any (A B C D : Option Addr) (a b c d : Nat) (h : Hse) (w : World) (hT : TblsAt w D h.tables) (hl : HseLe 1048576 h) :
    Calls Tryd.prog 34 #[hseV A a B b C c D d h] w fun e w' => ∃ A c, e = .returned (.slice A (ticketsL h).length c) ∧ TicksAt w' A (ticketsL h) ∧ Below w.heap.size w w' := by
  have hlt := hl.tables
  have HT := hide hT
  have hba : Below w.heap.size w (w.alloc (.cells #[.slice A h.items.length a, .slice B h.prices.length b, .slice C h.stock.length c, .int .i64 h.cash, .slice D h.tables.length d] 33)) := by go_grown
  have hbx := heap_alloc_new w (.cells #[.slice A h.items.length a, .slice B h.prices.length b, .slice C h.stock.length c, .int .i64 h.cash, .slice D h.tables.length d] 33)
  clear hl hT
  go_enter Tryd.func34, Tryd.ntmps34
  go_upto_region 1 with fail
  obtain ⟨W, hW⟩ : ∃ W, w.alloc (.cells #[.slice A h.items.length a, .slice B h.prices.length b, .slice C h.stock.length c, .int .i64 h.cash, .slice D h.tables.length d] 33) = W := ⟨_, rfl⟩
  rw [hW] at hba hbx ⊢
  clear hW
  have hsz := heap_ltH hbx
  have HK : Hid (KitB w (W.alloc (.cells #[] 113)) W.heap.size (.slice (some ⟨W.heap.size, 0, none⟩) 0 0) []) := hide ⟨[], World.ownsRow_lit W #[] 0 (Nat.le_refl _) (by unfold maxLen; omega) rfl, fun i x hx => by cases hx⟩
  have HX := hide ((heap_alloc_old W (.cells #[] 113) hsz).trans hbx)
  have HB := hide (hba.alloc (o := .cells #[] 113) hba.size)
  go_wp2_with fail
  go_loopw [3, 4] (fun ov iv wr => ∃ k : Nat, k ≤ h.tables.length ∧ iv = .int .i64 k ∧ Hid (KitB w wr W.heap.size ov ((ticketsL h).take k)) ∧ Hid (wr.heap[w.heap.size]? = some (.cells #[.slice A h.items.length a, .slice B h.prices.length b, .slice C h.stock.length c, .int .i64 h.cash, .slice D h.tables.length d] 33 (0, 0))) ∧ Hid (Below w.heap.size w wr) ∧ W.heap.size ≤ wr.heap.size) (fun _ iv _ => h.tables.length - (intOf iv).toNat)
  case atStart => exact ⟨0, Nat.zero_le _, rfl, HK, HX, HB, by rw [World.size_alloc]; omega⟩
  case round =>
    clear HK HX HB hba hbx
    obtain ⟨k, hk, rfl, HK, HX, HB, hWs⟩ := hrel
    obtain ⟨c0, c1, c2, c3, c4⟩ := five_cells HX.out
    by_cases hlk : k < h.tables.length
    · obtain ⟨tb, off, A', a', B', b', eD, hbl, t0, t1, t2, hda, hoa⟩ := HT.out k h.tables[k] (List.getElem?_eq_getElem hlk)
      have HTk : Hid ((ticketsL h).take (k + 1) = (ticketsL h).take k ++ [h.tables[k].dishes]) := hide (by
        have := ticketsL_at (List.getElem?_eq_getElem hlk)
        rw [List.take_add_one, this]; rfl)
      have hlen : ((ticketsL h).take k).length = k := by rw [List.length_take, ticketsL_len]; omega
      generalize h.tables[k] = x at t0 t1 t2 hda hoa HTk
      have t1' := (HB.out.cell hbl).trans t1
      have hz : (0 : Int) ≤ k := by omega
      have hz2 : (k : Int) < h.tables.length := by omega
      rw [eD] at c4 ⊢
      have HDA := hide hda
      have HLE := hide hlen
      obtain ⟨os, ho⟩ : ∃ os, (ticketsL h).take k = os := ⟨_, rfl⟩
      rw [ho] at HK HTk HLE
      obtain ⟨A3, c3', e3, -⟩ := (HK.out.sl HB.out).form
      have HLO := hide (World.ownsRow.lt HK.out.choose_spec.1)
      subst e3
      clear hda hoa hlen ho
      go_wp2_with (at_builtin; refine wpList_push_kit (W0 := w) rfl _ _ rfl W.heap.size (.slice A3 os.length c3') os rfl (by exact KitB.kept HK.out (fun j hj => heap_alloc_old _ _ (HLO.out j hj).2)) _ A' a' x.dishes rfl (heap_alloc_new _ _) HDA.out (by rw [HLE.out]; omega) (by rw [World.size_alloc]; omega) ?_; intro g' cap w' hown hgrow)
      have HKn : Hid (KitB w w' W.heap.size (.slice (some ⟨g', 0, none⟩) (os.length + 1) cap) ((ticketsL h).take (k + 1))) := hide (by rw [HTk.out]; exact hown)
      have hgr : Below wr.heap.size wr (wr.alloc (.cells #[.slice A' x.dishes.length a'] 113)) := (Below.refl _ _).alloc (Nat.le_refl _) _
      have hsW : w.heap.size < W.heap.size := hsz
      have HXn := hide ((hgrow.block w.heap.size (by rw [World.size_alloc]; omega) (fun e => by have := (HLO.out _ e.symm).1; omega)).trans ((heap_alloc_old wr _ (by omega)).trans HX.out))
      have HBn := hide ((HB.out.alloc (o := .cells #[.slice A' x.dishes.length a'] 113) HB.out.size).grown hgrow (by rw [World.size_alloc]; have := HB.out.size; omega) (fun j hj => by have := (HLO.out j hj).1; omega))
      have hWn : W.heap.size ≤ w'.heap.size := by have := hgrow.size; rw [World.size_alloc] at this; omega
      go_wp2_with fail
      go_roundw
      case rel => exact ⟨k + 1, hlk, by go_num, HKn, (by rw [eD] at HXn; exact HXn), HBn, hWn⟩
      case measure => simp [intOf]; omega
    · have HE := HK.out
      rw [List.take_of_length_le (by rw [ticketsL_len]; omega)] at HE
      clear HK
      obtain ⟨A2, c2', e, hA⟩ := (HE.sl HB.out).form
      subst e
      have HA2 := hide hA
      clear HE hA
      go_wp2_with fail
      refine bodyPost_ret (results_tmp rfl _ _ _) rfl ⟨A2, c2', rfl, HA2.out, HB.out⟩
end Go.Proofs.YtmepnilnlpoodaaDoor
