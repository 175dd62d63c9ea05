/- Two rows of the call's own, grown side by side: rows of two types lie apart. Over any program, no conditions. -/
import Derived.Test.YtnacjmkconabdaaBut
namespace Go.Proofs.Ytnacjmkconabdaa
set_option linter.unusedVariables false
set_option linter.unusedSimpArgs false
open Go.RowKit

theorem grown_refl (w : World) (row : Option Nat) : w.grownBy w row := ⟨rfl, rfl, rfl, Nat.le_refl _, fun _ _ _ => rfl⟩

/-- 'append(s, x)', s the call's own: all but s's block is as it was. -/
theorem wpList_snocG {P : Program} (w : World) {ops : Array Oper} {rest : List Oper} {o : Oper} {a : Act} {Q : Exit → Act → World → Prop} (hgd : o.guard = none) (s x : Operand) (t : TypeId)
    (ho : o.op = .call { callee := .builtin .append, args := #[s, x], argTypes := #[t, t] }) (e : TypeId) (k : IntKind) (bytes : Nat) (ht : P.underlying t = some (.slice e))
    (hinfo : (P.info? e).map (fun i => (i.zero, i.size, i.bytes)) = some (some (.int k 0), 1, bytes)) (B : Nat) (v : Value) (zs : List Int) (z : Int) (ad : Addr) (hs : a.eval s = v) (hx : a.eval x = .slice (some ad) 1 1)
    (hcell : w.cell? ad = some (.int k z)) (hown : Own k e B w v zs) (hlen : (zs.length + 1) * bytes ≤ 140737488355328 ∧ zs.length + 1 ≤ maxLen) (hB : B ≤ w.heap.size)
    (h : ∀ v' w', Own k e B w' v' (zs ++ [z]) → w.grownBy w' v.ownBlock → wpList P ops Q rest (a.put o.dst v') w') : wpList P ops Q (o :: rest) a w := by
  obtain ⟨i0, hi, hz0, hz1, hz2⟩ := info_parts hinfo
  refine wpList_append_own w hgd s x t ho B e i0 (.int k 0) 1 bytes ht hi hz0 hz1 hz2 rfl (by decide) v _ _ hs hown ad 1 1 [.int k z] hx rfl ?_ one1 hlen.2 hlen.1 hB ?_
  · intro j u hj
    match j, hj with
    | 0, hj => simp at hj; subst hj; simpa [Addr.add] using hcell
  · intro v' w' h1 h2 _
    exact h v' w' (Own.snoc h1) h2

/-- 'append(s, xs...)', s the call's own, xs whatever numbers: all but s's block is as it was. -/
theorem wpList_joinG {P : Program} (w : World) {ops : Array Oper} {rest : List Oper} {o : Oper} {a : Act} {Q : Exit → Act → World → Prop} (hgd : o.guard = none) (s x : Operand) (t : TypeId)
    (ho : o.op = .call { callee := .builtin .append, args := #[s, x], argTypes := #[t, t] }) (e : TypeId) (k : IntKind) (bytes : Nat) (ht : P.underlying t = some (.slice e))
    (hinfo : (P.info? e).map (fun i => (i.zero, i.size, i.bytes)) = some (some (.int k 0), 1, bytes)) (B : Nat) (v u : Value) (zs ys : List Int) (hs : a.eval s = v) (hx : a.eval x = u)
    (hown : Own k e B w v zs) (hsl : Sl k w u ys) (hlen : (zs.length + ys.length) * bytes ≤ 140737488355328 ∧ zs.length + ys.length ≤ maxLen) (hB : B ≤ w.heap.size)
    (h : ∀ v' w', Own k e B w' v' (zs ++ ys) → w.grownBy w' v.ownBlock → wpList P ops Q rest (a.put o.dst v') w') : wpList P ops Q (o :: rest) a w := by
  obtain ⟨i0, hi, hz0, hz1, hz2⟩ := info_parts hinfo
  obtain ⟨ad, c, rfl, h1, h2, h3, h4⟩ := hsl
  cases ad with
  | none =>
    have hc := h3 rfl
    subst hc
    have hy : ys = [] := List.length_eq_zero_iff.1 (by omega)
    subst hy
    refine wpList_append_own_none hgd s x t ho B e i0 1 ht hi v _ _ hs hown hx ?_
    refine h v w ?_ (grown_refl _ _)
    rw [List.append_nil]; exact hown
  | some ad =>
    refine wpList_append_own w hgd s x t ho B e i0 (.int k 0) 1 bytes ht hi hz0 hz1 hz2 rfl (by decide) v _ _ hs hown ad ys.length c (ys.map (Value.int k)) hx (by simp) ?_ (ints_one ys) hlen.2 hlen.1 hB (fun v' w' g1 g2 _ => h v' w' (by unfold Own; simpa using g1) g2)
    intro j u hj
    rcases h4 with rfl | ⟨b, off, hb, h5⟩
    · simp at hj
    · simp only [Option.some.injEq] at hb
      subst hb
      have hjl : j < ys.length := by
        rcases Nat.lt_or_ge j ys.length with g | g
        · exact g
        · simp [List.getElem?_eq_none (show (ys.map (Value.int k)).length ≤ j by simpa using g)] at hj
      rw [Go.WideShapes.add_plain, h5 j hjl]
      simp [List.getElem?_eq_getElem hjl] at hj
      subst hj
      simp [List.getD, List.getElem?_eq_getElem hjl]

/-- A block has one type. -/
theorem Own.other {k k' : IntKind} {e e' : TypeId} {B B' : Nat} {w w' : World} {v x : Value} {zs ys : List Int} (hv : Own k e B w v zs) (hx : Own k' e' B' w x ys) (he : e ≠ e') (hg : w.grownBy w' v.ownBlock) : Own k' e' B' w' x ys := by
  refine World.ownsRow.kept (row := v.ownBlock) hx hg ?_
  rcases hx.2 with ⟨h, _⟩ | ⟨g, cap, cur, h, _, hb, _⟩
  · rw [h]; exact .inl rfl
  · refine .inr fun e1 => ?_
    rcases hv.2 with ⟨h', _⟩ | ⟨g', cap', cur', h', _, hb', _⟩
    · rw [h, h'] at e1; simp [Value.ownBlock] at e1
    · rw [h, h'] at e1
      simp only [Value.ownBlock, Option.some.injEq] at e1
      subst e1
      rw [hb] at hb'
      cases hb'
      exact he rfl

theorem Own.grown {k : IntKind} {e : TypeId} {B : Nat} {w w' : World} {v : Value} {zs : List Int} (h : Own k e B w v zs) (hB : B ≤ w.heap.size) (hg : w.grownBy w' v.ownBlock) : Below B w w' :=
  (Below.refl _ _).grown hg hB (fun k hk => (World.ownsRow.lt h k hk).1)
end Go.Proofs.Ytnacjmkconabdaa
