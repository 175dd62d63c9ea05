/- Rows of slices of bytes as rows of values ([][]byte): read, owned, appended to. -/
import Derived.Test.YtjccpkekhjhafaaSlss
import Derived.Test.YtjccpkekhjhafaaByt
import Derived.Laws.OwnMore
import Derived.Laws.MakeOwn
import Derived.Deep.MidRow
namespace Go.Proofs.Ytjccpkekhjhafaa
set_option linter.unusedVariables false
set_option linter.unusedSimpArgs false
open Go.RowKit

/-- A row of values that may be read. -/
def SlV (w : World) (v : Value) (vs : List Value) : Prop :=
  ∃ a c, v = .slice a vs.length c ∧ vs.length ≤ c ∧ c ≤ maxLen ∧ (a = none → c = 0) ∧ (vs = [] ∨ ∃ b off, a = some ⟨b, off, none⟩ ∧ ∀ i u, vs[i]? = some u → w.cell? ⟨b, off + i, none⟩ = some u)
/-- What they read as. -/
def Read8 (w : World) (vs : List Value) (zss : List (List Int)) : Prop := vs.length = zss.length ∧ ∀ i u, vs[i]? = some u → Sl .u8 w u (zss.getD i [])
/-- Each the call's own. -/
def Rows8 (B : Nat) (w : World) (vs : List Value) (zss : List (List Int)) : Prop := vs.length = zss.length ∧ ∀ i u, vs[i]? = some u → Own .u8 5 B w u (zss.getD i [])
/-- The row itself the call's own. -/
def OwnV (B : Nat) (w : World) (s : Value) (vs : List Value) : Prop := w.ownsRow B 31 1 s vs.length vs

theorem SlV.ext {w w' : World} {v : Value} {vs : List Value} (h : SlV w v vs) (he : Ext w w') : SlV w' v vs := by
  obtain ⟨a, c, h1, h2, h3, h0, h4⟩ := h
  refine ⟨a, c, h1, h2, h3, h0, ?_⟩
  rcases h4 with h4 | ⟨b, off, h4, h5⟩
  · exact .inl h4
  · exact .inr ⟨b, off, h4, fun j v hj => he.cellOf (h5 j v hj)⟩
theorem Read8.ext {w w' : World} {vs : List Value} {zss : List (List Int)} (h : Read8 w vs zss) (he : Ext w w') : Read8 w' vs zss := ⟨h.1, fun i u hu => (h.2 i u hu).ext he⟩
theorem Rows8.ext {B : Nat} {w w' : World} {vs : List Value} {zss : List (List Int)} (h : Rows8 B w vs zss) (he : Ext w w') : Rows8 B w' vs zss := ⟨h.1, fun i u hu => (h.2 i u hu).ext he⟩
theorem Rows8.low {B B' : Nat} {w : World} {vs : List Value} {zss : List (List Int)} (h : Rows8 B w vs zss) (hB : B' ≤ B) : Rows8 B' w vs zss := ⟨h.1, fun i u hu => (h.2 i u hu).low hB⟩
theorem Rows8.read {B : Nat} {w : World} {vs : List Value} {zss : List (List Int)} (h : Rows8 B w vs zss) : Read8 w vs zss := ⟨h.1, fun i u hu => (h.2 i u hu).sl⟩
theorem OwnV.ext {B : Nat} {w w' : World} {s : Value} {vs : List Value} (h : OwnV B w s vs) (he : Ext w w') : OwnV B w' s vs :=
  World.ownsRow.kept (row := none) h ⟨he.os, he.tape, he.output, he.size, fun i hi _ => he.block i hi⟩ (by cases hv : s.ownBlock <;> simp)
theorem OwnV.low {B B' : Nat} {w : World} {s : Value} {vs : List Value} (h : OwnV B w s vs) (hB : B' ≤ B) : OwnV B' w s vs := by
  obtain ⟨h1, h2⟩ := h
  refine ⟨h1, ?_⟩
  rcases h2 with h2 | ⟨g, cap, cur, h2, h3, h4⟩
  · exact .inl h2
  · exact .inr ⟨g, cap, cur, h2, Nat.le_trans hB h3, h4⟩
theorem OwnV.nil (B : Nat) (w : World) : OwnV B w (.slice none 0 0) [] := World.ownsRow_nil _ _ _ _
theorem OwnV.sl {B : Nat} {w : World} {s : Value} {vs : List Value} (h : OwnV B w s vs) : SlV w s vs := by
  rcases h.2 with ⟨rfl, h2⟩ | ⟨g, cap, cur, rfl, _, hh, hn, hm, hs, ht⟩
  · exact ⟨none, 0, by rw [h2], by omega, by simp [maxLen], fun _ => rfl, .inl (List.length_eq_zero_iff.1 h2)⟩
  · refine ⟨_, cap, rfl, hn, hm, (fun h => by cases h), .inr ⟨g, 0, rfl, fun j v hj => ?_⟩⟩
    have := World.ownsRow.cells h (g := g) rfl j v hj
    rwa [Addr.add_mid] at this
/-- An empty row just laid. -/
theorem OwnV.lit (B : Nat) (w : World) (hB : B ≤ w.heap.size) (g : Nat) (hg : g = w.heap.size) : OwnV B (w.alloc (.cells #[] 31)) (.slice (some ⟨g, 0, none⟩) 0 0) [] := by
  subst hg
  exact World.ownsRow_made w #[] 0 hB (by simp) (by simp)
theorem SlV.sls {w : World} {v : Value} {vs : List Value} {zss : List (List Int)} (h : SlV w v vs) (hr : Read8 w vs zss) : Sls w v zss := by
  obtain ⟨a, c, h1, h2, h3, h0, h4⟩ := h
  refine ⟨a, c, by rw [h1, hr.1], by rw [← hr.1]; omega, ?_⟩
  rcases h4 with h4 | ⟨b, off, h4, h5⟩
  · left
    have := hr.1
    rw [h4] at this
    exact List.length_eq_zero_iff.1 this.symm
  · refine .inr ⟨b, off, h4, fun i hi => ?_⟩
    have hv : vs[i]? = some (vs[i]'(by rw [hr.1]; exact hi)) := List.getElem?_eq_getElem _
    exact ⟨_, h5 i _ hv, hr.2 i _ hv⟩
theorem Sl.cell1 {k : IntKind} {w : World} {v : Value} {zs : List Int} (h : Sl k w v zs) : v.oneCell' = true := by
  obtain ⟨a, c, rfl, _⟩ := h
  rfl
theorem Read8.one {w : World} {vs : List Value} {zss : List (List Int)} (h : Read8 w vs zss) : ∀ u ∈ vs, u.oneCell' = true := fun u hu => by
  obtain ⟨i, hi, e⟩ := List.mem_iff_getElem.1 hu
  exact (h.2 i u (by rw [List.getElem?_eq_getElem hi, e])).cell1
theorem Read8.nil (w : World) : Read8 w [] [] := ⟨rfl, fun i u h => by simp at h⟩
theorem Rows8.nil (B : Nat) (w : World) : Rows8 B w [] [] := ⟨rfl, fun i u h => by simp at h⟩
theorem getD_app_left {α : Type} {x y : List α} {i : Nat} {d : α} (h : i < x.length) : (x ++ y).getD i d = x.getD i d := by simp only [List.getD_eq_getElem?_getD]; rw [List.getElem?_append_left h]
theorem getD_app_right {α : Type} {x y : List α} {i : Nat} {d : α} (h : x.length ≤ i) : (x ++ y).getD i d = y.getD (i - x.length) d := by simp only [List.getD_eq_getElem?_getD]; rw [List.getElem?_append_right h]
theorem lt_of_some {α : Type} {l : List α} {i : Nat} {u : α} (h : l[i]? = some u) : i < l.length := (List.getElem?_eq_some_iff.1 h).1
theorem Read8.app {w : World} {vs us : List Value} {zss yss : List (List Int)} (h : Read8 w vs zss) (k : Read8 w us yss) : Read8 w (vs ++ us) (zss ++ yss) := by
  refine ⟨by rw [List.length_append, List.length_append, h.1, k.1], fun i u hu => ?_⟩
  by_cases hi : i < vs.length
  · rw [List.getElem?_append_left hi] at hu
    rw [getD_app_left (by rw [← h.1]; exact hi)]
    exact h.2 i u hu
  · rw [List.getElem?_append_right (by omega)] at hu
    rw [getD_app_right (by rw [← h.1]; omega), ← h.1]
    exact k.2 _ u hu
theorem Read8.single {w : World} {u : Value} {zs : List Int} (h : Sl .u8 w u zs) : Read8 w [u] [zs] := ⟨rfl, fun i v hv => by
  have := lt_of_some hv
  simp at this
  subst this
  simp at hv
  subst hv
  exact h⟩
theorem Rows8.app {B : Nat} {w : World} {vs us : List Value} {zss yss : List (List Int)} (h : Rows8 B w vs zss) (k : Rows8 B w us yss) : Rows8 B w (vs ++ us) (zss ++ yss) := by
  refine ⟨by rw [List.length_append, List.length_append, h.1, k.1], fun i u hu => ?_⟩
  by_cases hi : i < vs.length
  · rw [List.getElem?_append_left hi] at hu
    rw [getD_app_left (by rw [← h.1]; exact hi)]
    exact h.2 i u hu
  · rw [List.getElem?_append_right (by omega)] at hu
    rw [getD_app_right (by rw [← h.1]; omega), ← h.1]
    exact k.2 _ u hu
theorem Rows8.single {B : Nat} {w : World} {u : Value} {zs : List Int} (h : Own .u8 5 B w u zs) : Rows8 B w [u] [zs] := ⟨rfl, fun i v hv => by
  have := lt_of_some hv
  simp at this
  subst this
  simp at hv
  subst hv
  exact h⟩
theorem Rows8.take {B : Nat} {w : World} {vs : List Value} {zss : List (List Int)} (h : Rows8 B w vs zss) (n : Nat) : Rows8 B w (vs.take n) (zss.take n) := by
  refine ⟨by rw [List.length_take, List.length_take, h.1], fun i u hu => ?_⟩
  rw [List.getElem?_take] at hu
  split at hu
  · rename_i hi
    rw [List.getD_eq_getElem?_getD, List.getElem?_take, if_pos hi, ← List.getD_eq_getElem?_getD]
    exact h.2 i u hu
  · cases hu
theorem Rows8.drop {B : Nat} {w : World} {vs : List Value} {zss : List (List Int)} (h : Rows8 B w vs zss) (n : Nat) : Rows8 B w (vs.drop n) (zss.drop n) := by
  refine ⟨by rw [List.length_drop, List.length_drop, h.1], fun i u hu => ?_⟩
  rw [List.getElem?_drop] at hu
  rw [List.getD_eq_getElem?_getD, List.getElem?_drop, ← List.getD_eq_getElem?_getD]
  exact h.2 _ u hu

/-- A block has one type: a row of another type stays. -/
theorem owns_other {e e' : TypeId} {B B' n m sz sz' : Nat} {w w' : World} {v x : Value} {xs ys : List Value} (hv : w.ownsRow B e sz v n xs) (hx : w.ownsRow B' e' sz' x m ys) (he : e ≠ e') (hg : w.grownBy w' v.ownBlock) : w'.ownsRow B' e' sz' x m ys := by
  refine World.ownsRow.kept (row := v.ownBlock) hx hg ?_
  rcases hx.2 with ⟨h, _⟩ | ⟨g, cap, cur, h, _, hb, _⟩
  · rw [h]; exact .inl rfl
  · refine .inr fun e1 => ?_
    rcases hv.2 with ⟨h', _⟩ | ⟨g', cap', cur', h', _, hb', _⟩
    · rw [h, h'] at e1; simp [Value.ownBlock] at e1
    · rw [h, h'] at e1
      simp only [Value.ownBlock, Option.some.injEq] at e1
      subst e1
      rw [hb] at hb'
      cases hb'
      exact he rfl
theorem owns_grown {e : TypeId} {B n sz : Nat} {w w' : World} {v : Value} {xs : List Value} (h : w.ownsRow B e sz v n xs) (hB : B ≤ w.heap.size) (hg : w.grownBy w' v.ownBlock) : Below B w w' :=
  (Below.refl _ _).grown hg hB (fun k hk => (World.ownsRow.lt h k hk).1)
theorem Rows8.other {B B' : Nat} {w w' : World} {s : Value} {vs us : List Value} {zss : List (List Int)} (h : Rows8 B w us zss) (hv : OwnV B' w s vs) (hg : w.grownBy w' s.ownBlock) : Rows8 B w' us zss :=
  ⟨h.1, fun i u hu => owns_other hv (h.2 i u hu) (by decide) hg⟩

theorem infoV : (Try.prog.info? 31).map (fun i => (i.zero, i.size, i.bytes)) = some (some (.slice none 0 0), 1, 24) := by kernel_rfl
theorem info_partsV {P : Program} {e : TypeId} {z : Value} {n b : Nat} (h : (P.info? e).map (fun i => (i.zero, i.size, i.bytes)) = some (some z, n, b)) : ∃ i, P.info? e = some i ∧ i.zero = some z ∧ i.size = n ∧ i.bytes = b := by
  cases hi : P.info? e with
  | none => simp [hi] at h
  | some i =>
    simp only [hi, Option.map_some, Option.some.injEq, Prod.mk.injEq] at h
    exact ⟨i, rfl, h.1, h.2.1, h.2.2⟩

/-- 'append(s, x)' -/
theorem wpList_snocV (w : World) {ops : Array Oper} {rest : List Oper} {o : Oper} {a : Act} {Q : Exit → Act → World → Prop} (hgd : o.guard = none) (s x : Operand)
    (ho : o.op = .call { callee := .builtin .append, args := #[s, x], argTypes := #[22, 22] }) (B : Nat) (v : Value) (vs : List Value) (u : Value) (g : Nat) (hs : a.eval s = v) (hx : a.eval x = .slice (some ⟨g, 0, none⟩) 1 1)
    (hc : w.cell? ⟨g, 0, none⟩ = some u) (h1 : u.oneCell' = true) (hown : OwnV B w v vs) (hlen : vs.length + 1 ≤ 1000000) (hB : B ≤ w.heap.size)
    (h : ∀ v' w', OwnV B w' v' (vs ++ [u]) → w.grownBy w' v.ownBlock → wpList Try.prog ops Q rest (a.put o.dst v') w') : wpList Try.prog ops Q (o :: rest) a w := by
  obtain ⟨i0, hi, hz0, hz1, hz2⟩ := info_partsV infoV
  refine wpList_append_own w hgd s x 22 ho B 31 i0 (.slice none 0 0) 1 24 Try.underlying22 hi hz0 hz1 hz2 rfl (by decide) v _ _ hs hown ⟨g, 0, none⟩ 1 1 [u] hx rfl ?_ (by simpa using h1) (by unfold maxLen; omega) (by omega) hB ?_
  · intro j u' hj
    rw [Addr.add_mid, Nat.zero_add]
    match j, hj with
    | 0, hj => simp at hj; subst hj; exact hc
  · intro v' w' k1 k2 _
    refine h v' w' ?_ k2
    unfold OwnV
    rw [List.length_append]
    exact k1

/-- 'append(s, xs...)' -/
theorem wpList_joinV (w : World) {ops : Array Oper} {rest : List Oper} {o : Oper} {a : Act} {Q : Exit → Act → World → Prop} (hgd : o.guard = none) (s x : Operand)
    (ho : o.op = .call { callee := .builtin .append, args := #[s, x], argTypes := #[22, 22] }) (B : Nat) (v y : Value) (vs us : List Value) (hs : a.eval s = v) (hx : a.eval x = y)
    (hsl : SlV w y us) (h1 : ∀ u ∈ us, u.oneCell' = true) (hown : OwnV B w v vs) (hlen : vs.length + us.length ≤ 1000000) (hB : B ≤ w.heap.size)
    (h : ∀ v' w', OwnV B w' v' (vs ++ us) → w.grownBy w' v.ownBlock → wpList Try.prog ops Q rest (a.put o.dst v') w') : wpList Try.prog ops Q (o :: rest) a w := by
  obtain ⟨i0, hi, hz0, hz1, hz2⟩ := info_partsV infoV
  obtain ⟨ad, c, rfl, h2, h3, h0, h4⟩ := hsl
  cases ad with
  | none =>
    have hc := h0 rfl
    subst hc
    have hy : us = [] := List.length_eq_zero_iff.1 (by omega)
    subst hy
    refine wpList_append_own_none hgd s x 22 ho B 31 i0 1 Try.underlying22 hi v _ _ hs hown hx ?_
    refine h v w ?_ ⟨rfl, rfl, rfl, Nat.le_refl _, fun _ _ _ => rfl⟩
    rw [List.append_nil]; exact hown
  | some ad =>
    refine wpList_append_own w hgd s x 22 ho B 31 i0 (.slice none 0 0) 1 24 Try.underlying22 hi hz0 hz1 hz2 rfl (by decide) v _ _ hs hown ad us.length c us hx (by simp) ?_ h1 (by unfold maxLen; omega) (by omega) hB (fun v' w' k1 k2 _ => h v' w' (by unfold OwnV; rw [List.length_append]; exact k1) k2)
    intro j u hj
    rcases h4 with rfl | ⟨b, off, hb, h5⟩
    · simp at hj
    · simp only [Option.some.injEq] at hb
      subst hb
      rw [Go.WideShapes.add_plain]
      exact h5 j u hj
end Go.Proofs.Ytjccpkekhjhafaa
