/- Append of a whole slice onto one that the call owns.
   Conditions: the bounds in each statement. -/
import Derived.Test.YtmepnilnlpoodaaDoorSlKit
import Derived.Test.YtmepnilnlpoodaaDoorLots
import Derived.Maps.AppendAt
import Derived.RegionTactic
namespace Go.Proofs.YtmepnilnlpoodaaDoor
open Go.RowKit Go.ChangeShapes Go.WideShapes Go.ChangeAt Go.Deep

theorem wp_spread {P : Program} {w : World} {o : Oper} {a : Act} {K : Act → World → Prop} {Q : Exit → Act → World → Prop} (s x : Operand) (t : TypeId)
    (ho : o.op = .call { callee := .builtin .append, args := #[s, x], argTypes := #[t, t] })
    (base : Nat) (e : TypeId) (i : TypeInfo) (z : Value) (size bytes : Nat) (ht : P.underlying t = some (.slice e)) (hi : P.info? e = some i) (hz : i.zero = some z)
    (hsize : i.size = size) (hby : i.bytes = bytes) (hzs : z.cells.size = size) (hsz : 0 < size)
    (v : Value) (n : Nat) (xs : List Value) (hs : a.eval s = v) (hown : w.ownsRow base e size v n xs) (hv : v ≠ .slice none 0 0)
    (ad : Addr) (m c : Nat) (news : List Value) (hx : a.eval x = .slice (some ad) m c) (hl : news.length = m * size) (hnews : ∀ j u, news[j]? = some u → w.cell? (ad.add j) = some u) (h1 : ∀ u ∈ news, u.oneCell' = true)
    (h63 : n + m ≤ maxLen) (hbytes : (n + m) * bytes ≤ 140737488355328) (hbase : base ≤ w.heap.size)
    (h : ∀ g cap w', w'.ownsRow base e size (.slice (some ⟨g, 0, none⟩) (n + m) cap) (n + m) (xs ++ news) → w.grownBy w' v.ownBlock → K (a.put o.dst (.slice (some ⟨g, 0, none⟩) (n + m) cap)) w') : o.wp P a w K Q := by
  obtain ⟨v', w', hr, h2, h3, h4, _⟩ := run_append_own_at (P := P) w base t o.type e i z size bytes ht hi hz hsize hby hzs hsz v n xs hown ad m c news hl hnews h1 h63 hbytes hbase
  obtain ⟨g, cap, hv'⟩ : ∃ g cap, v' = .slice (some ⟨g, 0, none⟩) (n + m) cap := by
    rcases h2.2 with ⟨h5, _⟩ | ⟨g, cap, _, h5, _⟩
    · exact absurd (h4.1 h5).1 hv
    · exact ⟨g, cap, h5⟩
  subst hv'
  unfold Oper.wp execOp
  simp only [ho, resolve, invoke, builtin, Sem.run_bind, Sem.run_pure, Result.andThen_ok, List.map_toArray, List.map_cons, List.map_nil, hs, hx, hr]
  exact h g cap w' h2 h3

theorem ints_news {W : World} {ad : Addr} {xs : List Int} (hA : IntsAt W (some ad) xs) : ∀ j u, (xs.map (Value.int .i64))[j]? = some u → W.cell? (ad.add j) = some u := by
  intro j u hu
  rw [List.getElem?_map] at hu
  obtain ⟨y, hy, rfl⟩ := Option.map_eq_some_iff.1 hu
  obtain ⟨b, off, e, _, h1⟩ := hA j y hy
  injection e with e
  subst e
  rw [add_plain]
  exact h1

theorem wp_spread_int {W : World} {o : Oper} {a : Act} {K : Act → World → Prop} {Q : Exit → Act → World → Prop} (s x : Operand)
    (ho : o.op = .call { callee := .builtin .append, args := #[s, x], argTypes := #[23, 23] }) (lo : Nat) (v : Value) (ls : List Int) (hs : a.eval s = v) (hown : IntSl W lo v ls) (hv : v ≠ .slice none 0 0)
    (ad : Addr) (m c : Nat) (xs : List Int) (hm : xs.length = m) (hx : a.eval x = .slice (some ad) m c) (hA : IntsAt W (some ad) xs) (hn : ls.length + m ≤ 1048576) (hlo : lo ≤ W.heap.size)
    (h : ∀ g cap w', IntSl w' lo (.slice (some ⟨g, 0, none⟩) (ls.length + m) cap) (ls ++ xs) → W.grownBy w' v.ownBlock → K (a.put o.dst (.slice (some ⟨g, 0, none⟩) (ls.length + m) cap)) w') : o.wp Tryd.prog a W K Q := by
  obtain ⟨i0, hi, hz0, hz1, hz2⟩ := info_parts info3
  subst hm
  refine wp_spread s x 23 ho lo 3 i0 (.int .i64 0) 1 8 Tryd.underlying23 hi hz0 hz1 hz2 rfl (by decide) v ls.length (ls.map (Value.int .i64)) hs hown hv ad xs.length c (xs.map (Value.int .i64)) hx (by simp) (ints_news hA) (ints_oneCell .i64 xs) (by unfold maxLen; omega) (by omega) hlo ?_
  intro g cap w' h1 h2
  refine h g cap w' ?_ h2
  unfold IntSl
  rw [List.length_append, List.map_append]
  exact h1

theorem wpList_spread_int {W : World} {ops : Array Oper} {rest : List Oper} {o : Oper} {a : Act} {Q : Exit → Act → World → Prop} (hgd : o.guard = none) (s x : Operand)
    (ho : o.op = .call { callee := .builtin .append, args := #[s, x], argTypes := #[23, 23] }) (lo : Nat) (v : Value) (ls : List Int) (hs : a.eval s = v) (hown : IntSl W lo v ls) (hv : v ≠ .slice none 0 0)
    (ad : Addr) (m c : Nat) (xs : List Int) (hm : xs.length = m) (hx : a.eval x = .slice (some ad) m c) (hA : IntsAt W (some ad) xs) (hn : ls.length + m ≤ 1048576) (hlo : lo ≤ W.heap.size)
    (h : ∀ g cap w', IntSl w' lo (.slice (some ⟨g, 0, none⟩) (ls.length + m) cap) (ls ++ xs) → W.grownBy w' v.ownBlock → wpList Tryd.prog ops Q rest (a.put o.dst (.slice (some ⟨g, 0, none⟩) (ls.length + m) cap)) w') : wpList Tryd.prog ops Q (o :: rest) a W :=
  wpList_plain hgd fun _ hK => wp_spread_int s x ho lo v ls hs hown hv ad m c xs hm hx hA hn hlo fun g cap w' h2 h3 => hK _ _ (h g cap w' h2 h3)

theorem step_spread_int {W : World} {ops : Array Oper} {o : Oper} {a : Act} {K : Act → World → Prop} {Q : Exit → Act → World → Prop} {E : Prop} (hgd : o.guard = none) (s x : Operand)
    (ho : o.op = .call { callee := .builtin .append, args := #[s, x], argTypes := #[23, 23] }) (lo : Nat) (v : Value) (ls : List Int) (hs : a.eval s = v) (hown : IntSl W lo v ls) (hv : v ≠ .slice none 0 0)
    (ad : Addr) (m c : Nat) (xs : List Int) (hm : xs.length = m) (hx : a.eval x = .slice (some ad) m c) (hA : IntsAt W (some ad) xs) (hn : ls.length + m ≤ 1048576) (hlo : lo ≤ W.heap.size)
    (h : ∀ g cap w', IntSl w' lo (.slice (some ⟨g, 0, none⟩) (ls.length + m) cap) (ls ++ xs) → W.grownBy w' v.ownBlock → K (a.put o.dst (.slice (some ⟨g, 0, none⟩) (ls.length + m) cap)) w') :
    if Region.wanted o (yielded ops a.tmps) = true then Oper.wp Tryd.prog o a W K Q else E := by
  have hw : Region.wanted o (yielded ops a.tmps) = true := by simp [Region.wanted, hgd]
  rw [if_pos hw]
  exact wp_spread_int s x ho lo v ls hs hown hv ad m c xs hm hx hA hn hlo h

theorem int_lit {W : World} {lo g : Nat} {a : Int} (hg : W.heap[g]? = some (.cells #[.int .i64 a] 3 (0, 0))) (hlo : lo ≤ g) : IntSl W lo (.slice (some ⟨g, 0, none⟩) 1 1) [a] :=
  ⟨rfl, .inr ⟨g, 1, _, rfl, hlo, hg, Nat.le_refl _, by unfold maxLen; omega, rfl, rfl⟩⟩

theorem IntsAt.tail {w : World} {g off : Nat} {x : Int} {r : List Int} (h : IntsAt w (some ⟨g, off, none⟩) (x :: r)) : IntsAt w (some ⟨g, off + 1, none⟩) r := by
  intro i p hp
  obtain ⟨b, o, e, hlt, h1⟩ := h (i + 1) p (by simpa using hp)
  injection e with e
  injection e with e1 e2
  subst e1 e2
  exact ⟨g, off + 1, rfl, hlt, by rw [show off + 1 + i = off + (i + 1) from by omega]; exact h1⟩
theorem IntsAt.nil (w : World) (A : Option Addr) : IntsAt w A [] := fun i p hp => by simp at hp

end Go.Proofs.YtmepnilnlpoodaaDoor
