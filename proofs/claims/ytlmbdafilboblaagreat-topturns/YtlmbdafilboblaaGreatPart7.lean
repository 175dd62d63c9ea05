/- Texts laid together: ValsI, CycSeen, CycRow, BackMath, LfUp, LfFirst, LfOfOp, LfFrom, LfOp, BjBackOp, BjOp, BjMore. -/
import Derived.Test.YtlmbdafilboblaaGreatPart2
import Derived.Laws.OwnMore
import Derived.Laws.MakeOwn
import Derived.Deep.MidRow
import Derived.Test.YtlmbdafilboblaaGreatPart6
import Derived.Test.YtlmbdafilboblaaGreatPart4
import Derived.Test.YtlmbdafilboblaaGreatPart3
import Derived.Test.YtlmbdafilboblaaGreatPart5
/- Rows of slices of ints as rows of values ([][]int): read, owned, appended to (Vals, over ints). -/
namespace Go.Proofs.YtlmbdafilboblaaGreat
set_option linter.unusedVariables false
set_option linter.unusedSimpArgs false
open Go.RowKit

/-- A row of values that may be read. -/
def SlVI (w : World) (v : Value) (vs : List Value) : Prop :=
  ∃ a c, v = .slice a vs.length c ∧ vs.length ≤ c ∧ c ≤ maxLen ∧ (a = none → c = 0) ∧ (vs = [] ∨ ∃ b off, a = some ⟨b, off, none⟩ ∧ ∀ i u, vs[i]? = some u → w.cell? ⟨b, off + i, none⟩ = some u)
/-- What they read as. -/
def ReadI (w : World) (vs : List Value) (zss : List (List Int)) : Prop := vs.length = zss.length ∧ ∀ i u, vs[i]? = some u → Sl .i64 w u (zss.getD i [])
/-- Each the call's own. -/
def RowsI (B : Nat) (w : World) (vs : List Value) (zss : List (List Int)) : Prop := vs.length = zss.length ∧ ∀ i u, vs[i]? = some u → Own .i64 3 B w u (zss.getD i [])
/-- The row itself the call's own. -/
def OwnVI (B : Nat) (w : World) (s : Value) (vs : List Value) : Prop := w.ownsRow B 32 1 s vs.length vs

theorem SlVI.ext {w w' : World} {v : Value} {vs : List Value} (h : SlVI w v vs) (he : Ext w w') : SlVI w' v vs := by
  obtain ⟨a, c, h1, h2, h3, h0, h4⟩ := h
  refine ⟨a, c, h1, h2, h3, h0, ?_⟩
  rcases h4 with h4 | ⟨b, off, h4, h5⟩
  · exact .inl h4
  · exact .inr ⟨b, off, h4, fun j v hj => he.cellOf (h5 j v hj)⟩
theorem ReadI.ext {w w' : World} {vs : List Value} {zss : List (List Int)} (h : ReadI w vs zss) (he : Ext w w') : ReadI w' vs zss := ⟨h.1, fun i u hu => (h.2 i u hu).ext he⟩
theorem RowsI.ext {B : Nat} {w w' : World} {vs : List Value} {zss : List (List Int)} (h : RowsI B w vs zss) (he : Ext w w') : RowsI B w' vs zss := ⟨h.1, fun i u hu => (h.2 i u hu).ext he⟩
theorem RowsI.low {B B' : Nat} {w : World} {vs : List Value} {zss : List (List Int)} (h : RowsI B w vs zss) (hB : B' ≤ B) : RowsI B' w vs zss := ⟨h.1, fun i u hu => (h.2 i u hu).low hB⟩
theorem RowsI.read {B : Nat} {w : World} {vs : List Value} {zss : List (List Int)} (h : RowsI B w vs zss) : ReadI w vs zss := ⟨h.1, fun i u hu => (h.2 i u hu).sl⟩
theorem OwnVI.ext {B : Nat} {w w' : World} {s : Value} {vs : List Value} (h : OwnVI B w s vs) (he : Ext w w') : OwnVI B w' s vs :=
  World.ownsRow.kept (row := none) h ⟨he.os, he.tape, he.output, he.size, fun i hi _ => he.block i hi⟩ (by cases hv : s.ownBlock <;> simp)
theorem OwnVI.low {B B' : Nat} {w : World} {s : Value} {vs : List Value} (h : OwnVI B w s vs) (hB : B' ≤ B) : OwnVI B' w s vs := by
  obtain ⟨h1, h2⟩ := h
  refine ⟨h1, ?_⟩
  rcases h2 with h2 | ⟨g, cap, cur, h2, h3, h4⟩
  · exact .inl h2
  · exact .inr ⟨g, cap, cur, h2, Nat.le_trans hB h3, h4⟩
theorem OwnVI.nil (B : Nat) (w : World) : OwnVI B w (.slice none 0 0) [] := World.ownsRow_nil _ _ _ _
theorem OwnVI.sl {B : Nat} {w : World} {s : Value} {vs : List Value} (h : OwnVI B w s vs) : SlVI w s vs := by
  rcases h.2 with ⟨rfl, h2⟩ | ⟨g, cap, cur, rfl, _, hh, hn, hm, hs, ht⟩
  · exact ⟨none, 0, by rw [h2], by omega, by simp [maxLen], fun _ => rfl, .inl (List.length_eq_zero_iff.1 h2)⟩
  · refine ⟨_, cap, rfl, hn, hm, (fun h => by cases h), .inr ⟨g, 0, rfl, fun j v hj => ?_⟩⟩
    have := World.ownsRow.cells h (g := g) rfl j v hj
    rwa [Addr.add_mid] at this
/-- An empty row just laid. -/
theorem OwnVI.lit (B : Nat) (w : World) (hB : B ≤ w.heap.size) (g : Nat) (hg : g = w.heap.size) : OwnVI B (w.alloc (.cells #[] 32)) (.slice (some ⟨g, 0, none⟩) 0 0) [] := by
  subst hg
  exact World.ownsRow_made w #[] 0 hB (by simp) (by simp)
theorem Sl.cell1I {k : IntKind} {w : World} {v : Value} {zs : List Int} (h : Sl k w v zs) : v.oneCell' = true := by
  obtain ⟨a, c, rfl, _⟩ := h
  rfl
theorem ReadI.one {w : World} {vs : List Value} {zss : List (List Int)} (h : ReadI w vs zss) : ∀ u ∈ vs, u.oneCell' = true := fun u hu => by
  obtain ⟨i, hi, e⟩ := List.mem_iff_getElem.1 hu
  exact (h.2 i u (by rw [List.getElem?_eq_getElem hi, e])).cell1I
theorem ReadI.nil (w : World) : ReadI w [] [] := ⟨rfl, fun i u h => by simp at h⟩
theorem RowsI.nil (B : Nat) (w : World) : RowsI B w [] [] := ⟨rfl, fun i u h => by simp at h⟩
theorem getDI_app_left {α : Type} {x y : List α} {i : Nat} {d : α} (h : i < x.length) : (x ++ y).getD i d = x.getD i d := by simp only [List.getD_eq_getElem?_getD]; rw [List.getElem?_append_left h]
theorem getDI_app_right {α : Type} {x y : List α} {i : Nat} {d : α} (h : x.length ≤ i) : (x ++ y).getD i d = y.getD (i - x.length) d := by simp only [List.getD_eq_getElem?_getD]; rw [List.getElem?_append_right h]
theorem ltI_of_some {α : Type} {l : List α} {i : Nat} {u : α} (h : l[i]? = some u) : i < l.length := (List.getElem?_eq_some_iff.1 h).1
theorem ReadI.app {w : World} {vs us : List Value} {zss yss : List (List Int)} (h : ReadI w vs zss) (k : ReadI w us yss) : ReadI w (vs ++ us) (zss ++ yss) := by
  refine ⟨by rw [List.length_append, List.length_append, h.1, k.1], fun i u hu => ?_⟩
  by_cases hi : i < vs.length
  · rw [List.getElem?_append_left hi] at hu
    rw [getDI_app_left (by rw [← h.1]; exact hi)]
    exact h.2 i u hu
  · rw [List.getElem?_append_right (by omega)] at hu
    rw [getDI_app_right (by rw [← h.1]; omega), ← h.1]
    exact k.2 _ u hu
theorem ReadI.single {w : World} {u : Value} {zs : List Int} (h : Sl .i64 w u zs) : ReadI w [u] [zs] := ⟨rfl, fun i v hv => by
  have := ltI_of_some hv
  simp at this
  subst this
  simp at hv
  subst hv
  exact h⟩
theorem RowsI.app {B : Nat} {w : World} {vs us : List Value} {zss yss : List (List Int)} (h : RowsI B w vs zss) (k : RowsI B w us yss) : RowsI B w (vs ++ us) (zss ++ yss) := by
  refine ⟨by rw [List.length_append, List.length_append, h.1, k.1], fun i u hu => ?_⟩
  by_cases hi : i < vs.length
  · rw [List.getElem?_append_left hi] at hu
    rw [getDI_app_left (by rw [← h.1]; exact hi)]
    exact h.2 i u hu
  · rw [List.getElem?_append_right (by omega)] at hu
    rw [getDI_app_right (by rw [← h.1]; omega), ← h.1]
    exact k.2 _ u hu
theorem RowsI.single {B : Nat} {w : World} {u : Value} {zs : List Int} (h : Own .i64 3 B w u zs) : RowsI B w [u] [zs] := ⟨rfl, fun i v hv => by
  have := ltI_of_some hv
  simp at this
  subst this
  simp at hv
  subst hv
  exact h⟩
theorem RowsI.take {B : Nat} {w : World} {vs : List Value} {zss : List (List Int)} (h : RowsI B w vs zss) (n : Nat) : RowsI B w (vs.take n) (zss.take n) := by
  refine ⟨by rw [List.length_take, List.length_take, h.1], fun i u hu => ?_⟩
  rw [List.getElem?_take] at hu
  split at hu
  · rename_i hi
    rw [List.getD_eq_getElem?_getD, List.getElem?_take, if_pos hi, ← List.getD_eq_getElem?_getD]
    exact h.2 i u hu
  · cases hu
theorem RowsI.drop {B : Nat} {w : World} {vs : List Value} {zss : List (List Int)} (h : RowsI B w vs zss) (n : Nat) : RowsI B w (vs.drop n) (zss.drop n) := by
  refine ⟨by rw [List.length_drop, List.length_drop, h.1], fun i u hu => ?_⟩
  rw [List.getElem?_drop] at hu
  rw [List.getD_eq_getElem?_getD, List.getElem?_drop, ← List.getD_eq_getElem?_getD]
  exact h.2 _ u hu

/-- A block has one type: a row of another type stays. -/
theorem ownsI_other {e e' : TypeId} {B B' n m sz sz' : Nat} {w w' : World} {v x : Value} {xs ys : List Value} (hv : w.ownsRow B e sz v n xs) (hx : w.ownsRow B' e' sz' x m ys) (he : e ≠ e') (hg : w.grownBy w' v.ownBlock) : w'.ownsRow B' e' sz' x m ys := by
  refine World.ownsRow.kept (row := v.ownBlock) hx hg ?_
  rcases hx.2 with ⟨h, _⟩ | ⟨g, cap, cur, h, _, hb, _⟩
  · rw [h]; exact .inl rfl
  · refine .inr fun e1 => ?_
    rcases hv.2 with ⟨h', _⟩ | ⟨g', cap', cur', h', _, hb', _⟩
    · rw [h, h'] at e1; simp [Value.ownBlock] at e1
    · rw [h, h'] at e1
      simp only [Value.ownBlock, Option.some.injEq] at e1
      subst e1
      rw [hb] at hb'
      cases hb'
      exact he rfl
theorem ownsI_grown {e : TypeId} {B n sz : Nat} {w w' : World} {v : Value} {xs : List Value} (h : w.ownsRow B e sz v n xs) (hB : B ≤ w.heap.size) (hg : w.grownBy w' v.ownBlock) : Below B w w' :=
  (Below.refl _ _).grown hg hB (fun k hk => (World.ownsRow.lt h k hk).1)
theorem RowsI.other {B B' : Nat} {w w' : World} {s : Value} {vs us : List Value} {zss : List (List Int)} (h : RowsI B w us zss) (hv : OwnVI B' w s vs) (hg : w.grownBy w' s.ownBlock) : RowsI B w' us zss :=
  ⟨h.1, fun i u hu => ownsI_other hv (h.2 i u hu) (by decide) hg⟩

theorem infoVI : (Tryz.prog.info? 32).map (fun i => (i.zero, i.size, i.bytes)) = some (some (.slice none 0 0), 1, 24) := by kernel_rfl
theorem info_partsVI {P : Program} {e : TypeId} {z : Value} {n b : Nat} (h : (P.info? e).map (fun i => (i.zero, i.size, i.bytes)) = some (some z, n, b)) : ∃ i, P.info? e = some i ∧ i.zero = some z ∧ i.size = n ∧ i.bytes = b := by
  cases hi : P.info? e with
  | none => simp [hi] at h
  | some i =>
    simp only [hi, Option.map_some, Option.some.injEq, Prod.mk.injEq] at h
    exact ⟨i, rfl, h.1, h.2.1, h.2.2⟩

/-- 'append(s, x)' -/
theorem wpList_snocVI (w : World) {ops : Array Oper} {rest : List Oper} {o : Oper} {a : Act} {Q : Exit → Act → World → Prop} (hgd : o.guard = none) (s x : Operand)
    (ho : o.op = .call { callee := .builtin .append, args := #[s, x], argTypes := #[44, 44] }) (B : Nat) (v : Value) (vs : List Value) (u : Value) (g : Nat) (hs : a.eval s = v) (hx : a.eval x = .slice (some ⟨g, 0, none⟩) 1 1)
    (hc : w.cell? ⟨g, 0, none⟩ = some u) (h1 : u.oneCell' = true) (hown : OwnVI B w v vs) (hlen : vs.length + 1 ≤ 1000000) (hB : B ≤ w.heap.size)
    (h : ∀ v' w', OwnVI B w' v' (vs ++ [u]) → w.grownBy w' v.ownBlock → wpList Tryz.prog ops Q rest (a.put o.dst v') w') : wpList Tryz.prog ops Q (o :: rest) a w := by
  obtain ⟨i0, hi, hz0, hz1, hz2⟩ := info_partsVI infoVI
  refine wpList_append_own w hgd s x 44 ho B 32 i0 (.slice none 0 0) 1 24 Tryz.underlying44 hi hz0 hz1 hz2 rfl (by decide) v _ _ hs hown ⟨g, 0, none⟩ 1 1 [u] hx rfl ?_ (by simpa using h1) (by unfold maxLen; omega) (by omega) hB ?_
  · intro j u' hj
    rw [Addr.add_mid, Nat.zero_add]
    match j, hj with
    | 0, hj => simp at hj; subst hj; exact hc
  · intro v' w' k1 k2 _
    refine h v' w' ?_ k2
    unfold OwnVI
    rw [List.length_append]
    exact k1

/-- 'append(s, xs...)' -/
theorem wpList_joinVI (w : World) {ops : Array Oper} {rest : List Oper} {o : Oper} {a : Act} {Q : Exit → Act → World → Prop} (hgd : o.guard = none) (s x : Operand)
    (ho : o.op = .call { callee := .builtin .append, args := #[s, x], argTypes := #[44, 44] }) (B : Nat) (v y : Value) (vs us : List Value) (hs : a.eval s = v) (hx : a.eval x = y)
    (hsl : SlVI w y us) (h1 : ∀ u ∈ us, u.oneCell' = true) (hown : OwnVI B w v vs) (hlen : vs.length + us.length ≤ 1000000) (hB : B ≤ w.heap.size)
    (h : ∀ v' w', OwnVI B w' v' (vs ++ us) → w.grownBy w' v.ownBlock → wpList Tryz.prog ops Q rest (a.put o.dst v') w') : wpList Tryz.prog ops Q (o :: rest) a w := by
  obtain ⟨i0, hi, hz0, hz1, hz2⟩ := info_partsVI infoVI
  obtain ⟨ad, c, rfl, h2, h3, h0, h4⟩ := hsl
  cases ad with
  | none =>
    have hc := h0 rfl
    subst hc
    have hy : us = [] := List.length_eq_zero_iff.1 (by omega)
    subst hy
    refine wpList_append_own_none hgd s x 44 ho B 32 i0 1 Tryz.underlying44 hi v _ _ hs hown hx ?_
    refine h v w ?_ ⟨rfl, rfl, rfl, Nat.le_refl _, fun _ _ _ => rfl⟩
    rw [List.append_nil]; exact hown
  | some ad =>
    refine wpList_append_own w hgd s x 44 ho B 32 i0 (.slice none 0 0) 1 24 Tryz.underlying44 hi hz0 hz1 hz2 rfl (by decide) v _ _ hs hown ad us.length c us hx (by simp) ?_ h1 (by unfold maxLen; omega) (by omega) hB (fun v' w' k1 k2 _ => h v' w' (by unfold OwnVI; rw [List.length_append]; exact k1) k2)
    intro j u hj
    rcases h4 with rfl | ⟨b, off, hb, h5⟩
    · simp at hj
    · simp only [Option.some.injEq] at hb
      subst hb
      rw [Go.WideShapes.add_plain]
      exact h5 j u hj
theorem SlVI.row {w : World} {a : Option Addr} {n c : Nat} {vs : List Value} {zss : List (List Int)} (h : SlVI w (.slice a n c) vs) (hr : ReadI w vs zss) {k : Nat} (hk : k < zss.length) :
    ∃ g off u, a = some ⟨g, off, .none⟩ ∧ w.cell? ⟨g, off + k, .none⟩ = some u ∧ Sl .i64 w u (zss.getD k []) := by
  obtain ⟨a', c', hv, _, _, _, h4⟩ := h
  simp only [Value.slice.injEq] at hv
  obtain ⟨rfl, _, rfl⟩ := hv
  have hk' : k < vs.length := by rw [hr.1]; exact hk
  rcases h4 with h4 | ⟨g, off, rfl, h5⟩
  · rw [h4] at hk'; exact absurd hk' (by simp)
  exact ⟨g, off, vs[k], rfl, h5 k _ (List.getElem?_eq_getElem hk'), hr.2 k _ (List.getElem?_eq_getElem hk')⟩
end Go.Proofs.YtlmbdafilboblaaGreat

/- Which places were walked: the row of truths that the loop over cycles keeps. Plain lists. -/
namespace Go.Proofs.YtlmbdafilboblaaGreat
set_option linter.unusedVariables false
set_option linter.unusedSimpArgs false

/-- Which of n places stand in a row. -/
def seenF (n : Nat) (xs : List Nat) : List Bool := (List.range n).map fun k => decide (k ∈ xs)
theorem seenF_len (n : Nat) (xs : List Nat) : (seenF n xs).length = n := by simp [seenF]
theorem seenF_nil (n : Nat) : seenF n [] = List.replicate n false :=
  List.ext_getElem (by simp [seenF]) fun i h1 h2 => by simp [seenF]
theorem seenF_at {n k : Nat} (xs : List Nat) (h : k < n) : (seenF n xs).getD k false = decide (k ∈ xs) := by
  have h' : k < (seenF n xs).length := by rw [seenF_len]; exact h
  rw [List.getD_eq_getElem?_getD, List.getElem?_eq_getElem h']
  simp [seenF]
theorem seenF_set {n k : Nat} (xs : List Nat) (h : k < n) : (seenF n xs).set k true = seenF n (xs ++ [k]) := by
  refine List.ext_getElem (by simp [seenF]) fun i h1 h2 => ?_
  rw [List.getElem_set]
  by_cases e : k = i
  · subst e; rw [if_pos rfl]; simp [seenF]
  · rw [if_neg e]
    have e' : ¬ i = k := fun h => e h.symm
    simp [seenF, e']
theorem seenF_close (n : Nat) (cs : List (List Nat)) (c : List Nat) : seenF n (cs.flatten ++ c) = seenF n (cs ++ [c]).flatten := by simp
/-- The round's own test: is the next place walked already? -/
theorem seenF_test {n k : Nat} (cs : List (List Nat)) (c : List Nat) (h : k < n) : (seenF n (cs.flatten ++ c)).getD k false = decide (k ∈ c ∨ k ∈ cs.flatten) := by
  rw [seenF_at _ h]
  exact decide_eq_decide.2 (by rw [List.mem_append]; exact Or.comm)
end Go.Proofs.YtlmbdafilboblaaGreat

/- The cycles of a row, or none, as a row of rows of the call's own. No conditions. -/
namespace Go.Proofs.YtlmbdafilboblaaGreat
set_option linter.unusedVariables false
set_option linter.unusedSimpArgs false
open Go.RowKit

def stepN (A : List Nat) (x : Nat) : Nat := A.getD x 0
/-- The cycles of a row, or none. -/
def CycIs (l : List Int) (cs : List (List Nat)) : Prop := if ordB l = true then CycOf (stepN (toN l)) l.length cs else cs = []
theorem CycIs.eq {l : List Int} {cs ds : List (List Nat)} (h : CycIs l cs) (k : CycIs l ds) : cs = ds := by
  unfold CycIs at h k
  by_cases e : ordB l = true
  · rw [if_pos e] at h k; exact CycOf.eq h k
  · rw [if_neg e] at h k; rw [h, k]
theorem CycIs.no {l : List Int} (h : ordB l = false) : CycIs l [] := by unfold CycIs; rw [h]; rfl
theorem CycIs.yes {l : List Int} {cs : List (List Nat)} (h : ordB l = true) (k : CycOf (stepN (toN l)) l.length cs) : CycIs l cs := by unfold CycIs; rw [if_pos h]; exact k
def rowLen : Value → Nat
  | .slice _ n _ => n
  | _ => 0
theorem rowLen_eq (a : Option Addr) (n c : Nat) : rowLen (.slice a n c) = n := rfl
theorem Own.rowLen {k : IntKind} {e : TypeId} {B : Nat} {w : World} {v : Value} {zs : List Int} (h : Own k e B w v zs) : rowLen v = zs.length := by
  obtain ⟨a, c, rfl, _⟩ := h.sl
  rfl
theorem flatC_len : ∀ {cs : List (List Nat)}, (∀ c ∈ cs, 0 < c.length) → cs.length ≤ cs.flatten.length
  | [], _ => Nat.zero_le _
  | c :: cs, h => by
    have h1 := h c (List.mem_cons_self)
    have h2 := flatC_len (cs := cs) fun d hd => h d (List.mem_cons_of_mem _ hd)
    rw [List.flatten_cons, List.length_append, List.length_cons]
    omega
/-- What a row of another type keeps. -/
theorem OwnB.other {e' : TypeId} {B B' m sz : Nat} {w w' : World} {g n cap : Nat} {x : Value} {bs : List Bool} {ys : List Value} (hv : OwnB B w (.slice (some ⟨g, 0, none⟩) n cap) bs) (hx : w.ownsRow B' e' sz x m ys) (he : 4 ≠ e') (hg : But g w w') : w'.ownsRow B' e' sz x m ys := by
  have hl : n = bs.length := by
    rcases hv.2 with ⟨h, _⟩ | ⟨_, _, _, h, _⟩
    · cases h
    · cases h; rfl
  exact ownsI_other (v := .slice (some ⟨g, 0, none⟩) n cap) hv hx he hg
theorem but_grown {g : Nat} {w w1 w2 : World} {v : Value} (h : But g w w1) (hg : w1.grownBy w2 v.ownBlock) (hv : ∀ k, v.ownBlock = some k → w.heap.size ≤ k) : But g w w2 :=
  ⟨hg.os.trans h.os, hg.tape.trans h.tape, hg.output.trans h.output, Nat.le_trans h.size hg.size, fun i hi hne => (hg.block i (Nat.lt_of_lt_of_le hi h.size) (fun e => by
    have := hv i e.symm
    omega)).trans (h.block i hi hne)⟩
theorem Own.above {k : IntKind} {e : TypeId} {B : Nat} {w : World} {v : Value} {zs : List Int} (h : Own k e B w v zs) : ∀ j, v.ownBlock = some j → B ≤ j := fun j hj => (World.ownsRow.lt h j hj).1

theorem CycIs.len {l : List Int} {cs : List (List Nat)} (h : CycIs l cs) (k : Nat) : ((cs.map natL).getD k []).length ≤ l.length := by
  rw [List.getD_eq_getElem?_getD]
  rcases Nat.lt_or_ge k (cs.map natL).length with g | g
  · rw [List.getElem?_eq_getElem g, Option.getD_some, List.getElem_map, natL_len]
    unfold CycIs at h
    split at h
    · have hm : cs[k]'(by simpa using g) ∈ cs := List.getElem_mem _
      exact nodup_permN_le (h.nodupC hm) fun x hx => h.ltC hm hx
    · subst h; simp at g
  · rw [List.getElem?_eq_none g]; exact Nat.zero_le _
theorem CycIs.num {l : List Int} {cs : List (List Nat)} (h : CycIs l cs) : (cs.map natL).length ≤ l.length := by
  rw [List.length_map]
  unfold CycIs at h
  split at h
  · have h1 := flatC_len h.ne
    have h2 := h.all.length_eq
    rw [List.length_range] at h2
    omega
  · subst h; exact Nat.zero_le _
theorem take_flat_le (cs : List (List Nat)) (i : Nat) : (cs.take i).flatten.length ≤ cs.flatten.length := by
  have h := congrArg List.length (congrArg List.flatten (List.take_append_drop i cs))
  rw [List.flatten_append, List.length_append] at h
  omega
theorem take_flat_succ (cs : List (List Nat)) {i : Nat} (hi : i < cs.length) : (cs.take (i + 1)).flatten.length = (cs.take i).flatten.length + (cs.getD i []).length := by
  rw [List.take_add_one, List.getElem?_eq_getElem hi, List.flatten_append, List.length_append, List.getD_eq_getElem?_getD, List.getElem?_eq_getElem hi]
  simp
theorem CycIs.flat {l : List Int} {cs : List (List Nat)} (h : CycIs l cs) : cs.flatten.length ≤ l.length := by
  unfold CycIs at h
  split at h
  · have := h.all.length_eq
    rw [List.length_range] at this
    omega
  · subst h; exact Nat.zero_le _
theorem CycIs.flat_ok {l : List Int} {cs : List (List Nat)} (h : CycIs l cs) (ho : ordB l = true) : cs.flatten.length = l.length := by
  unfold CycIs at h
  rw [if_pos ho] at h
  have := h.all.length_eq
  rwa [List.length_range] at this
theorem getD_mapL (cs : List (List Nat)) (k : Nat) : ((cs.map natL).getD k []).length = (cs.getD k []).length := by
  simp only [List.getD_eq_getElem?_getD, List.getElem?_map]
  cases cs[k]? with
  | none => rfl
  | some c => simp [natL_len]
theorem getD_memL {cs : List (List Nat)} {i : Nat} (h : i < cs.length) : cs.getD i [] ∈ cs := by
  rw [List.getD_eq_getElem?_getD, List.getElem?_eq_getElem h]
  exact List.getElem_mem h
theorem getD_mapE (cs : List (List Nat)) (k : Nat) : (cs.map natL).getD k [] = natL (cs.getD k []) := by
  simp only [List.getD_eq_getElem?_getD, List.getElem?_map]
  cases cs[k]? with
  | none => rfl
  | some c => rfl
theorem lf_ok (l : List Int) : ordB (natL (lfN l)) = true := ordB_nat (lfN_perm l)
theorem CycOf.congr {p q : Nat → Nat} {n : Nat} {cs : List (List Nat)} (h : CycOf p n cs) (e : ∀ x, x < n → p x = q x) : CycOf q n cs :=
  { ne := h.ne
    nxt := fun c hc t ht => by rw [← e _ (h.ltC hc (getN_mem ht))]; exact h.nxt c hc t ht
    least := h.least
    up := h.up
    all := h.all }
/-- The cycles of the order that like bytes stand in. -/
theorem lf_cyc {l : List Int} {cs : List (List Nat)} (h : CycIs (natL (lfN l)) cs) : CycOf (rkN l) l.length cs := by
  unfold CycIs at h
  rw [if_pos (lf_ok l), natL_len, lfN_len, toN_nat] at h
  exact h.congr fun x hx => lfN_at hx
end Go.Proofs.YtlmbdafilboblaaGreat

/- A row filled from its end with what the cycles of an order read, one behind the other. Plain numbers, no conditions. -/
namespace Go.Proofs.YtlmbdafilboblaaGreat
set_option linter.unusedVariables false
set_option linter.unusedSimpArgs false

/-- What all the cycles' places read. -/
def strB (l : List Int) (cs : List (List Nat)) : List Int := cs.flatten.map fun k => l.getD k 0
theorem strB_rev (l : List Int) : ∀ cs : List (List Nat), (strB l cs).reverse = (cs.reverse.map (wordOf l)).flatten
  | [] => rfl
  | c :: cs => by
    have ih := strB_rev l cs
    unfold strB at ih ⊢
    rw [List.flatten_cons, List.map_append, List.reverse_append, ih, List.reverse_cons, List.map_append, List.flatten_append]
    simp [wordOf, List.map_reverse]
theorem strB_len (l : List Int) (cs : List (List Nat)) : (strB l cs).length = cs.flatten.length := by
  unfold strB
  rw [List.length_map]
theorem flatC_at : ∀ {cs : List (List Nat)} {i j : Nat}, i < cs.length → j < (cs.getD i []).length → cs.flatten[(cs.take i).flatten.length + j]? = some ((cs.getD i []).getD j 0)
  | [], _, _, hi, _ => absurd hi (by simp)
  | c :: cs, 0, j, _, hj => by
    rw [List.getD_cons_zero] at hj ⊢
    rw [List.take_zero, List.flatten_nil, List.length_nil, Nat.zero_add, List.flatten_cons, List.getElem?_append_left hj, List.getD_eq_getElem?_getD, List.getElem?_eq_getElem hj]
    rfl
  | c :: cs, i + 1, j, hi, hj => by
    rw [List.getD_cons_succ] at hj ⊢
    rw [List.take_succ_cons, List.flatten_cons, List.flatten_cons, List.length_append, List.getElem?_append_right (by omega), show c.length + (cs.take i).flatten.length + j - c.length = (cs.take i).flatten.length + j by omega]
    exact flatC_at (by rw [List.length_cons] at hi; omega) hj
theorem strB_at {l : List Int} {cs : List (List Nat)} {i j : Nat} (hi : i < cs.length) (hj : j < (cs.getD i []).length) : (strB l cs).getD ((cs.take i).flatten.length + j) 0 = l.getD ((cs.getD i []).getD j 0) 0 := by
  unfold strB
  rw [List.getD_eq_getElem?_getD, List.getElem?_map, flatC_at hi hj]
  rfl
/-- A row of n, filled from its end with k of what there is. -/
def fillR (X : List Int) (n k : Nat) : List Int := List.replicate (n - k) 0 ++ (X.take k).reverse
theorem fillR_len {X : List Int} {n k : Nat} (hX : X.length = n) (hk : k ≤ n) : (fillR X n k).length = n := by
  unfold fillR
  rw [List.length_append, List.length_replicate, List.length_reverse, List.length_take]
  omega
theorem fillR_zero (X : List Int) (n : Nat) : fillR X n 0 = List.replicate n 0 := by simp [fillR]
theorem fillR_all {X : List Int} {n : Nat} (hX : X.length = n) : fillR X n n = X.reverse := by
  unfold fillR
  rw [Nat.sub_self, List.replicate_zero, List.nil_append, List.take_of_length_le (by omega)]
theorem fillR_next {X : List Int} {n k : Nat} (hX : X.length = n) (hk : k < n) : (fillR X n k).set (n - 1 - k) (X.getD k 0) = fillR X n (k + 1) := by
  unfold fillR
  have e : List.replicate (n - k) (0 : Int) = List.replicate (n - 1 - k) 0 ++ [0] := by
    rw [show n - k = n - 1 - k + 1 by omega, List.replicate_succ']
  have h1 : k < X.length := by omega
  rw [e, List.take_add_one, List.getElem?_eq_getElem h1, Option.toList_some, List.reverse_append, List.append_assoc, List.set_append_right _ _ (by simp), List.length_replicate, Nat.sub_self, List.getD_eq_getElem?_getD, List.getElem?_eq_getElem h1, show n - (k + 1) = n - 1 - k by omega]
  rfl
end Go.Proofs.YtlmbdafilboblaaGreat

/- A row that is filled from its beginning on; where the next of each byte goes. Plain numbers, no conditions. -/
namespace Go.Proofs.YtlmbdafilboblaaGreat
set_option linter.unusedVariables false
set_option linter.unusedSimpArgs false
open Go.RowKit

/-- A row of n numbers, the first i of them in. -/
def upL (f : Nat → Int) (n i : Nat) : List Int := (List.range n).map fun j => if j < i then f j else 0
theorem upL_len (f : Nat → Int) (n i : Nat) : (upL f n i).length = n := by simp [upL]
theorem upL_at (f : Nat → Int) (i : Nat) {n j : Nat} (h : j < n) : (upL f n i).getD j 0 = if j < i then f j else 0 := mapI_at _ _ h
theorem upL_zero (f : Nat → Int) (n : Nat) : upL f n 0 = List.replicate n 0 := by
  refine rowI_ext (by rw [upL_len, List.length_replicate]) fun b hb => ?_
  rw [upL_len] at hb
  rw [upL_at f 0 hb, rep_at hb, if_neg (by omega)]
theorem upL_next (f : Nat → Int) {n i : Nat} (hi : i < n) : (upL f n i).set i (f i) = upL f n (i + 1) := by
  refine rowI_ext (by rw [List.length_set, upL_len, upL_len]) fun b hb => ?_
  rw [List.length_set, upL_len] at hb
  rw [upL_at f _ hb]
  by_cases e : i = b
  · subst e
    rw [setI_same (by rw [upL_len]; exact hb), if_pos (by omega)]
  · rw [setI_other e, upL_at f _ hb]
    by_cases g : b < i
    · rw [if_pos g, if_pos (by omega)]
    · rw [if_neg g, if_neg (by omega)]
theorem upL_row (l : List Int) : upL (fun j => l.getD j 0) l.length l.length = l := by
  refine rowI_ext (upL_len _ _ _) fun b hb => ?_
  rw [upL_len] at hb
  rw [upL_at _ _ hb, if_pos hb]
theorem upL_lf (l : List Int) : upL (fun j => ((rkN l j : Nat) : Int)) l.length l.length = natL (lfN l) := by
  refine rowI_ext (by rw [upL_len, natL_len, lfN_len]) fun b hb => ?_
  rw [upL_len] at hb
  rw [upL_at _ _ hb, if_pos hb, natL_at, lfN_at hb]

/-- Where the next of each byte goes, the first i of them laid. -/
def nexL (l : List Int) (i : Nat) : List Int := (List.range 256).map fun (b : Nat) => ((ahC l b l.length + cntI l b i : Nat) : Int)
theorem nexL_len (l : List Int) (i : Nat) : (nexL l i).length = 256 := by simp [nexL]
theorem nexL_at (l : List Int) (i : Nat) {b : Nat} (h : b < 256) : (nexL l i).getD b 0 = ((ahC l b l.length + cntI l b i : Nat) : Int) := mapI_at _ _ h
theorem nexL_next {l : List Int} {i q : Nat} (h : l.getD i 0 = (q : Int)) (hq : q < 256) : (nexL l i).set q ((ahC l q l.length + cntI l q i + 1 : Nat) : Int) = nexL l (i + 1) := by
  refine rowI_ext (by rw [List.length_set, nexL_len, nexL_len]) fun b hb => ?_
  rw [List.length_set, nexL_len] at hb
  rw [nexL_at l _ hb]
  by_cases e : q = b
  · subst e
    rw [setI_same (by rw [nexL_len]; exact hb), cntI_same h]
    congr 1
  · rw [setI_other e, nexL_at l _ hb, cntI_other (by rw [h]; omega)]
theorem ahC_sum (l : List Int) : ∀ q : Nat, q ≤ 256 → sumI (natL (cntsI l 256)) q = ((ahC l q l.length : Nat) : Int) := by
  intro q
  induction q with
  | zero => intro _; rfl
  | succ q ih =>
    intro hq
    rw [sumI, ih (by omega), ahC, natL_at, cntsI_at l (by omega)]
    omega
theorem nexL_zero (l : List Int) : startsI (natL (cntsI l 256)) = nexL l 0 := by
  have hl : (natL (cntsI l 256)).length = 256 := by rw [natL_len, cntsI_len]
  refine rowI_ext (by rw [startsI_len, hl, nexL_len]) fun b hb => ?_
  rw [startsI_len, hl] at hb
  rw [startsI_at _ (by rw [hl]; exact hb), nexL_at l _ hb, ahC_sum l b (by omega)]
  rfl
theorem fitB_bytes {l : List Int} (h : Bytes8 l) : fitB l 256 = true := fitB_iff.2 ⟨by omega, by omega, goodI_of fun j hj => ⟨(h.get j).1, by have := (h.get j).2; omega⟩⟩
theorem lfSum_bound {l : List Int} (h : l.length ≤ 100000) : ∀ i, i ≤ (natL (cntsI l 256)).length → -4611686018427387904 ≤ sumI (natL (cntsI l 256)) i ∧ sumI (natL (cntsI l 256)) i ≤ 4611686018427387904 := fun i hi => by
  rw [natL_len, cntsI_len] at hi
  rw [ahC_sum l i hi]
  have h1 := ahC_le l i l.length
  have h2 : i * l.length ≤ 256 * 100000 := Nat.mul_le_mul hi h
  omega
end Go.Proofs.YtlmbdafilboblaaGreat

/- Contract of lf.firstPlaces. -/
namespace Go.Proofs.YtlmbdafilboblaaGreat
set_option linter.unusedVariables false
set_option linter.unusedSimpArgs false
open Go.RowKit

set_option maxHeartbeats 1000000 in
theorem firstPlaces_any (v : Value) (l : List Int) (w : World) (hv : Sl .u8 w v l) (h8 : Bytes8 l) (hs : l.length ≤ 100000) :
    Calls Tryz.prog 36 #[v] w fun e w' => ∃ r, e = .returned r ∧ Own .i64 3 w.heap.size w' r (nexL l 0) ∧ Ext w w' := by
  have HV := hide' hv
  have H8 := hide' h8
  have HFB := hide' (fitB_bytes h8)
  have HCN : Hid (countsI l 256 = natL (cntsI l 256)) := countsI_yes HFB.out
  have HSB := hide' (lfSum_bound hs)
  have HNX := hide' (nexL_zero l)
  have HLC : Hid ((natL (cntsI l 256)).length ≤ 4000000) := by show _ ≤ _; rw [natL_len, cntsI_len]; omega
  have HLS := hide' hs
  obtain ⟨va, vc, rfl, _⟩ := hv
  obtain ⟨n, HN⟩ : ∃ n, Hid (l.length = n) := ⟨_, rfl⟩
  have HUR := hide' (upL_row l)
  have HU0 := hide' (upL_zero (fun j => l.getD j 0) n)
  have HUN := hide' (fun i (h : i < n) => upL_next (fun j => l.getD j 0) h)
  have HUL := hide' (upL_len (fun j => l.getD j 0) n)
  rw [HN.out] at HV hs HUR ⊢
  obtain ⟨K, HK⟩ : ∃ K : Nat → List Int, Hid (∀ i, upL (fun j => l.getD j 0) n i = K i) := ⟨_, fun _ => rfl⟩
  rw [HK.out] at HUR HU0
  have HKN : Hid (∀ i, i < n → (K i).set i (l.getD i 0) = K (i + 1)) := fun i hi => by have := HUN.out i hi; rwa [HK.out, HK.out] at this
  have HKL : Hid (∀ i, (K i).length = n) := fun i => by have := HUL.out i; rwa [HK.out] at this
  have VA : Hid (0 < n → ∃ g off, va = some ⟨g, off, none⟩ ∧ ∀ j, j < n → w.cell? ⟨g, off + j, none⟩ = some (.int .u8 (l.getD j 0))) := fun h0 => by
    obtain ⟨_, g, off, h1, h2⟩ := HV.out.at (fun e => by have := HN.out; rw [e] at this; simp at this; omega)
    exact ⟨g, off, h1, fun j hj => h2 j hj⟩
  obtain ⟨w1, hmk, ho, he⟩ := make_intsB w n (by omega)
  rw [← HU0.out] at ho
  have HO := hide' ho
  have HE := hide' he
  clear ho he h8 HK HUN HUL HU0
  go_enter Tryz.func36, Tryz.ntmps36
  go_wp2
  clear hmk
  go_loopw [13] (fun vi wr => ∃ (i : Nat), i ≤ n ∧ vi = .int .i64 i ∧ Hid (Own .i64 3 w.heap.size wr (.slice (some ⟨w.heap.size, 0, none⟩) n n) (K i)) ∧ Hid (Ext w wr)) (fun vi _ => n - (intOf vi).toNat)
  case atStart => exact ⟨0, Nat.zero_le _, rfl, HO, HE⟩
  case round =>
    clear HO HE
    obtain ⟨i, hi, rfl, HO, HE⟩ := hrel
    by_cases hlt : i < n
    · have hlt' : (i : Int) < n := by omega
      obtain ⟨b, o, rfl, k1⟩ := VA.out (by omega)
      have c1 := HE.out.cellOf (k1 i hlt)
      clear k1
      have hz := H8.out.get i
      have hst := HKN.out i hlt
      obtain ⟨z, HZ⟩ : ∃ z, Hid (l.getD i 0 = z) := ⟨_, rfl⟩
      rw [HZ.out] at c1 hz hst
      have hcv : IntKind.i64.wrap z = z := by rw [IntKind.wrap_i64]; omega
      have hfz := HO.out.frozen (HKL.out i) i
      have hci := HO.out.cell (HKL.out i) i hlt
      have ho2 := HO.out.store (HKL.out i) i z
      rw [hst] at ho2
      have HO2 := hide' ho2
      have HE2 := hide' (Ext.but HE.out (Nat.le_refl _) (but_set wr w.heap.size i (.int .i64 z)))
      clear ho2 hst
      go_wp2
      go_roundw
      case rel => exact ⟨i + 1, by omega, by go_num, HO2, HE2⟩
      case measure => simp [intOf]; omega
    · have hlt' : decide ((i : Int) < n) = false := by simp; omega
      have hin : i = n := by omega
      have HO1 : Hid (Own .i64 3 w.heap.size wr (.slice (some ⟨w.heap.size, 0, none⟩) n n) l) := by
        have := HO.out
        rw [hin, HUR.out] at this
        exact this
      clear hin HO
      go_wp2_with fail
      refine (counts_any _ l _ _ HO1.out.sl (by have := HLS.out; omega)).mono ?_
      rw [HFB.out, HCN.out]
      rintro e w3 ⟨s3, rfl, ho3, he3⟩
      have HO3 := hide' ho3
      have HE3 := hide' (HE.out.trans he3)
      clear ho3 he3
      go_wp2_with fail
      refine (starts_any _ _ _ HO3.out.sl HLC.out HSB.out).mono ?_
      rw [HNX.out]
      rintro e w4 ⟨s4, rfl, ho4, he4⟩
      have HO4 := hide' (ho4.low HE3.out.size)
      have HE4 := hide' (HE3.out.trans he4)
      clear ho4 he4 HO3 HE3
      go_wp2
      go_ret
      exact ⟨_, rfl, HO4.out, HE4.out⟩
end Go.Proofs.YtlmbdafilboblaaGreat

/- Contract of lf.Of. -/
namespace Go.Proofs.YtlmbdafilboblaaGreat
set_option linter.unusedVariables false
set_option linter.unusedSimpArgs false
open Go.RowKit

set_option maxHeartbeats 2000000 in
theorem lfOf_any (v : Value) (l : List Int) (w : World) (hv : Sl .u8 w v l) (h8 : Bytes8 l) (hs : l.length ≤ 100000) :
    Calls Tryz.prog 20 #[v] w fun e w' => ∃ r, e = .returned r ∧ Own .i64 3 w.heap.size w' r (natL (lfN l)) ∧ Ext w w' := by
  have HV := hide' hv
  have H8 := hide' h8
  have C := hide' (firstPlaces_any v l w hv h8 hs)
  obtain ⟨va, vc, rfl, _⟩ := hv
  obtain ⟨n, HN⟩ : ∃ n, Hid (l.length = n) := ⟨_, rfl⟩
  have HUR := hide' (upL_lf l)
  have HRK : Hid (∀ k b : Nat, k < n → l.getD k 0 = (b : Int) → rkN l k = ahC l b n + cntI l b k) := fun k b hk hb => by
    have := rk_sum (l := l) (k := k) hb (fun j => (H8.out.get j).1) (by rw [HN.out]; omega)
    rw [HN.out] at this
    exact this
  rw [HN.out] at HV hs HUR C ⊢
  obtain ⟨R, HR⟩ : ∃ R : Nat → List Int, Hid (∀ i, upL (fun j => ((rkN l j : Nat) : Int)) n i = R i) := ⟨_, fun _ => rfl⟩
  have HRN : Hid (∀ i, i < n → (R i).set i ((rkN l i : Nat) : Int) = R (i + 1)) := fun i hi => by have := upL_next (fun j => ((rkN l j : Nat) : Int)) hi; rwa [HR.out, HR.out] at this
  have HRL : Hid (∀ i, (R i).length = n) := fun i => by have := upL_len (fun j => ((rkN l j : Nat) : Int)) n i; rwa [HR.out] at this
  have HR0 : Hid (List.replicate n 0 = R 0) := by have := upL_zero (fun j => ((rkN l j : Nat) : Int)) n; rw [HR.out] at this; exact this.symm
  rw [HR.out] at HUR
  have VA : Hid (0 < n → ∃ b off, va = some ⟨b, off, none⟩ ∧ ∀ W j, Ext w W → j < n → W.cell? ⟨b, off + j, none⟩ = some (.int .u8 (l.getD j 0))) := fun h0 => by
    obtain ⟨_, b, off, h1, h2⟩ := HV.out.at (fun e => by have := HN.out; rw [e] at this; simp at this; omega)
    exact ⟨b, off, h1, fun W j he hj => he.cellOf (h2 j hj)⟩
  clear h8 HR HV
  go_enter Tryz.func20, Tryz.ntmps20
  go_wp2_with fail
  refine C.out.mono ?_
  rintro e w1 ⟨s1, rfl, ho1, he1⟩
  have X1 := hide' he1
  have hz1 := he1.size
  obtain ⟨g, cap, hs1, hB, _⟩ := ho1.shape (fun e => by have := nexL_len l 0; rw [e] at this; simp at this)
  rw [nexL_len] at hs1
  subst hs1
  have hgl := (World.ownsRow.lt ho1 g rfl).2
  clear he1 C
  obtain ⟨w2, hmk, ho, he⟩ := make_intsB w1 n (by omega)
  rw [HR0.out] at ho
  have OT := hide' (ho1.ext he)
  have OO := hide' (ho.low hz1)
  have HE := hide' (X1.out.trans he)
  clear ho he ho1
  go_wp2
  clear hmk
  obtain ⟨r, HG⟩ : ∃ r, Hid (w1.heap.size = r) := ⟨_, rfl⟩
  rw [HG.out] at OO hgl hz1 ⊢
  have hne : g ≠ r := by omega
  have hne' : r ≠ g := by omega
  clear HG X1
  go_loopw [14] (fun vi wr => ∃ (i : Nat), i ≤ n ∧ vi = .int .i64 i ∧ Hid (Own .i64 3 w.heap.size wr (.slice (some ⟨g, 0, none⟩) 256 cap) (nexL l i)) ∧
    Hid (Own .i64 3 w.heap.size wr (.slice (some ⟨r, 0, none⟩) n n) (R i)) ∧ Hid (Ext w wr)) (fun vi _ => n - (intOf vi).toNat)
  case atStart => exact ⟨0, Nat.zero_le _, rfl, OT, OO, HE⟩
  case round =>
    clear OT OO HE
    obtain ⟨i, hi, rfl, OT, OO, HE⟩ := hrel
    by_cases hlt : i < n
    · have hlt' : (i : Int) < n := by omega
      obtain ⟨b, o, rfl, k1⟩ := VA.out (by omega)
      have c1 := k1 wr i HE.out hlt
      have hz := H8.out.get i
      obtain ⟨q, hq⟩ := Int.eq_ofNat_of_zero_le hz.1
      have hq6 : q < 256 := by omega
      have hq6' : (q : Int) < 256 := by omega
      have HNX := hide' (nexL_next hq hq6)
      have HRW := hide' (HRK.out i q hlt hq)
      have HLW := hide' (HRN.out i hlt)
      rw [hq] at c1
      have c2 := OT.out.cell (nexL_len l i) q hq6
      rw [nexL_at l i hq6, HN.out] at c2
      have z2 := OT.out.frozen (nexL_len l i) q
      have c3 := OO.out.cell (HRL.out i) i hlt
      have z3 := OO.out.frozen (HRL.out i) i
      have hb1 : ahC l q n ≤ 25600000 := by
        have h1 := ahC_le l q n
        have h2 : q * n ≤ 256 * 100000 := Nat.mul_le_mul (by omega) hs
        omega
      have hb2 := cntI_le l q i
      rw [HN.out] at HNX
      rw [HRW.out] at HLW
      obtain ⟨T, HTT⟩ : ∃ T, Hid (ahC l q n + cntI l q i = T) := ⟨_, rfl⟩
      rw [HTT.out] at c2 HNX HLW
      have hT : T ≤ 25700001 := by rw [← HTT.out]; omega
      have OO2 : Hid (Own .i64 3 w.heap.size (wr.setCell ⟨r, i, none⟩ (.int .i64 (T : Int))) (.slice (some ⟨r, 0, none⟩) n n) (R (i + 1))) := by
        show Own _ _ _ _ _ _
        rw [← HLW.out]
        exact OO.out.store (HRL.out i) i _
      have OT2 := hide' (OT.out.keep hne (but_set wr r i (.int .i64 (T : Int))))
      have HE2 := hide' (Ext.but HE.out hz1 (but_set wr r i (.int .i64 (T : Int))))
      have c4 := OT2.out.cell (nexL_len l i) q hq6
      have z4 := OT2.out.frozen (nexL_len l i) q
      have OO3 := hide' (OO2.out.keep hne' (but_set _ g q (.int .i64 ((T + 1 : Nat) : Int))))
      have OT3 : Hid (Own .i64 3 w.heap.size ((wr.setCell ⟨r, i, none⟩ (.int .i64 (T : Int))).setCell ⟨g, q, none⟩ (.int .i64 ((T + 1 : Nat) : Int))) (.slice (some ⟨g, 0, none⟩) 256 cap) (nexL l (i + 1))) := by
        show Own _ _ _ _ _ _
        rw [← HNX.out]
        exact OT2.out.store (nexL_len l i) q _
      have HE3 := hide' (Ext.but HE2.out hB (but_set _ g q (.int .i64 ((T + 1 : Nat) : Int))))
      rw [nexL_at l i hq6, HN.out, HTT.out] at c4
      clear k1 hq hz HNX HLW HRW hb1 hb2
      go_wp2
      go_roundw
      case rel => exact ⟨i + 1, by omega, by go_num, OT3, OO3, HE3⟩
      case measure => simp [intOf]; omega
    · have hlt' : decide ((i : Int) < n) = false := by simp; omega
      have hin : i = n := by omega
      have OF : Hid (Own .i64 3 w.heap.size wr (.slice (some ⟨r, 0, none⟩) n n) (natL (lfN l))) := by
        have := OO.out
        rw [hin, HUR.out] at this
        exact this
      clear hin
      go_wp2
      go_ret
      exact ⟨_, rfl, OF.out, HE.out⟩
end Go.Proofs.YtlmbdafilboblaaGreat

/- Contract of lf.cycleFrom. -/
namespace Go.Proofs.YtlmbdafilboblaaGreat
set_option linter.unusedVariables false
set_option linter.unusedSimpArgs false
open Go.RowKit

set_option maxHeartbeats 4000000 in
theorem cycleFrom_any (v : Value) (A : List Nat) (cs : List (List Nat)) (n i g B : Nat) (w0 w : World) (hv : Sl .i64 w0 v (natL A)) (he0 : Ext w0 w) (hg0 : w0.heap.size ≤ g) (hA : A.length = n) (hlen : n ≤ 100000)
    (hlt : ∀ x, x < n → stepN A x < n) (hinj : ∀ x y, x < n → y < n → stepN A x = stepN A y → x = y) (hi : i < n) (hni : i ∉ cs.flatten) (hT : CycTo (stepN A) n i cs)
    (hO : OwnB B w (.slice (some ⟨g, 0, none⟩) n n) (seenF n cs.flatten)) :
    Calls Tryz.prog 35 #[v, .int .i64 (i : Int), .slice (some ⟨g, 0, none⟩) n n] w fun e w' => ∃ c s, e = .returned s ∧ CycTo (stepN A) n (i + 1) (cs ++ [c]) ∧
      OwnB B w' (.slice (some ⟨g, 0, none⟩) n n) (seenF n (cs ++ [c]).flatten) ∧ Own .i64 3 w.heap.size w' s (natL c) ∧ But g w w' := by
  have HLT := hide' hlt
  have HINJ := hide' hinj
  have HNI := hide' hni
  have HT := hide' hT
  have HO := hide' hO
  have HE := hide' he0
  have Hg := hide' hg0
  have HU2 := hide' hv
  obtain ⟨ua, uc, rfl, _⟩ := hv
  obtain ⟨_, _, _, hcp⟩ := HU2.out.nat
  rw [natL_len, hA] at hcp ⊢
  obtain ⟨pg, poff, rfl, hpc⟩ := hcp (by omega)
  have HP2 : Hid (∀ j, j < n → w0.cell? ⟨pg, poff + j, none⟩ = some (.int .i64 (stepN A j : Nat))) := hpc
  clear hcp hpc hlt hinj hni hT hO he0 hg0 HU2
  go_enter Tryz.func35, Tryz.ntmps35
  go_wp2
  go_loopw [7, 8] (fun vc vk wq => ∃ (c : List Nat) (k : Nat), k < n ∧ vk = .int .i64 k ∧ Hid (CycIn (stepN A) n i cs c k) ∧ Hid (OwnB B wq (.slice (some ⟨g, 0, none⟩) n n) (seenF n (cs.flatten ++ c))) ∧
    Hid (Own .i64 3 w.heap.size wq vc (natL c)) ∧ Hid (But g w wq)) (fun vc _ _ => n - rowLen vc)
  case atStart => exact ⟨[], i, hi, rfl, CycIn.start hi, (by rw [List.append_nil]; exact HO), Own.nil _ _ _ _, But.refl _ _⟩
  case round =>
    obtain ⟨c, k, hk, rfl, HC, HB, HW, HBT⟩ := hrel
    have hk' : (k : Int) < n := by omega
    have hcb := HB.out.cell (seenF_len _ _) k hk
    rw [seenF_test cs c hk] at hcb
    have hszq := HBT.out.size
    by_cases hin : k ∈ c ∨ k ∈ cs.flatten
    · rw [decide_eq_true hin] at hcb
      have HCL := hide' (HC.out.close HINJ.out HT.out HNI.out hin)
      have HO2 : Hid (OwnB B wr (.slice (some ⟨g, 0, none⟩) n n) (seenF n (cs ++ [c]).flatten)) := by show OwnB _ _ _ _; rw [← seenF_close]; exact HB.out
      clear hin
      go_wp2
      go_ret
      exact ⟨c, _, rfl, HCL.out, HO2.out, HW.out, HBT.out⟩
    · rw [decide_eq_false hin] at hcb
      have HC2 := hide' (HC.out.step HLT.out (fun h => hin (.inl h)) (fun h => hin (.inr h)))
      have hpk := HLT.out k hk
      have hln := nodup_permN_le HC2.out.nodup HC2.out.lt
      rw [List.length_append, List.length_singleton] at hln
      have hfz := HB.out.frozen (seenF_len _ _) k
      have HB1 := HB.out.store (seenF_len _ _) k true
      rw [seenF_set _ hk, List.append_assoc] at HB1
      have HB2 := hide' (HB1.ext (ext_alloc (wr.setCell ⟨g, k, none⟩ (.bool true)) (.cells #[.int .i64 (k : Int)] 3)))
      have HW1 : Own .i64 3 _ (wr.setCell ⟨g, k, none⟩ (.bool true)) u7 (natL c) := OwnB.other HB.out HW.out (by decide) (but_set _ _ _ _)
      have HW2 := hide' (HW1.ext (ext_alloc (wr.setCell ⟨g, k, none⟩ (.bool true)) (.cells #[.int .i64 (k : Int)] 3)))
      have HBT2 := hide' ((HBT.out.trans (but_set wr g k (.bool true))).trans (But.ofExt (ext_alloc (wr.setCell ⟨g, k, none⟩ (.bool true)) (.cells #[.int .i64 (k : Int)] 3))))
      have hcl : (natL c).length ≤ 100000 := by rw [natL_len]; omega
      have HCL := hide' hcl
      have hrl := HW.out.rowLen
      rw [natL_len] at hrl
      have HRL := hide' hrl
      obtain ⟨p, HPK⟩ : ∃ p, Hid (stepN A k = p) := ⟨_, rfl⟩
      rw [HPK.out] at HC2 hpk
      have hpk' : (p : Int) < n := by omega
      have HLN := hide' hln
      clear hin HB HW HB1 HW1 hcl hrl hln
      go_wp2_with (at_builtin; refine wpList_snocG _ rfl _ _ 32 rfl 3 .i64 8 Tryz.underlying32 infoI64 _ _ (natL c) (k : Int) ⟨wr.heap.size, 0, none⟩ rfl rfl ?c4 HW2.out ?c3 ?c5 ?_)
      case c3 => have := HCL.out; unfold maxLen; omega
      case c5 => exact HBT2.out.size
      case c4 =>
        rw [show wr.heap.size = (wr.setCell ⟨g, k, none⟩ (.bool true)).heap.size by simp [World.setCell]]
        simp only [World.cell?, heap_alloc_top]
        simp
      intro v1 w4 ho1 hg1
      rw [natL_snoc] at ho1
      have HW3 := hide' ho1
      have HB3 : Hid (OwnB B w4 (.slice (some ⟨g, 0, none⟩) n n) (seenF n (cs.flatten ++ (c ++ [k])))) := ownsI_other HW2.out HB2.out (by decide) hg1
      have HBT3 := hide' (but_grown HBT2.out hg1 HW2.out.above)
      have HR1 : Hid (rowLen v1 = c.length + 1) := by show _ = _; rw [ho1.rowLen, natL_len, List.length_append, List.length_singleton]
      have hpc := (Ext.but HE.out Hg.out HBT3.out).cellOf (HP2.out k hk)
      rw [HPK.out] at hpc
      clear ho1 hg1 HW2 HB2 HBT2
      go_wp2
      go_roundw
      case rel => exact ⟨c ++ [k], p, by omega, by first | rfl | go_num, HC2, HB3, HW3, HBT3⟩
      case measure => have h1 := HR1.out; have h2 := HRL.out; have h3 := HLN.out; omega
end Go.Proofs.YtlmbdafilboblaaGreat

/- Contract of lf.Cycles. -/
namespace Go.Proofs.YtlmbdafilboblaaGreat
set_option linter.unusedVariables false
set_option linter.unusedSimpArgs false
open Go.RowKit

set_option maxHeartbeats 4000000 in
theorem lfCycles_any (v : Value) (l : List Int) (w : World) (hv : Sl .i64 w v l) (hlen : l.length ≤ 100000) :
    Calls Tryz.prog 19 #[v] w fun e w' => ∃ cs s us, e = .returned (.tuple #[s, .bool (ordB l)]) ∧ CycIs l cs ∧ OwnVI w.heap.size w' s us ∧ RowsI w.heap.size w' us (cs.map natL) ∧ Ext w w' := by
  have HU := hide' hv
  obtain ⟨ua, uc, rfl, _⟩ := hv
  have C := hide' (rkIs_any _ l w HU.out (by omega))
  cases h2 : ordB l
  · have HN := hide' (CycIs.no h2)
    rw [h2] at C
    clear h2 HU
    go_enter Tryz.func19, Tryz.ntmps19
    go_wp2_with fail
    refine C.out.mono ?_
    rintro e w1 ⟨rfl, he1⟩
    have X1 := hide' he1
    clear he1
    go_wp2
    go_ret2
    exact ⟨[], _, [], rfl, HN.out, OwnVI.nil _ _, RowsI.nil _ _, X1.out⟩
  · rw [h2] at C
    have HYES : Hid (∀ cs, CycOf (stepN (toN l)) l.length cs → CycIs l cs) := fun cs h => CycIs.yes h2 h
    obtain ⟨hA, hP⟩ := ordB_cast h2
    obtain ⟨A, HA⟩ : ∃ A, Hid (toN l = A) := ⟨_, rfl⟩
    rw [HA.out] at hA hP HYES
    obtain ⟨n, HN⟩ : ∃ n, Hid (l.length = n) := ⟨_, rfl⟩
    have hAL : A.length = n := by rw [← HN.out, ← hA, natL_len]
    have hPP : A.Perm (List.range A.length) := by rw [hAL, ← HN.out]; exact hP
    have HLT : Hid (∀ x, x < n → stepN A x < n) := fun x hx => by
      have := perm_lt hPP (p := x) (by rw [hAL]; exact hx)
      rwa [hAL] at this
    have HINJ : Hid (∀ x y, x < n → y < n → stepN A x = stepN A y → x = y) := fun x y hx hy e => nodup_getN (hPP.nodup_iff.2 List.nodup_range) (by rw [hAL]; exact hx) (by rw [hAL]; exact hy) e
    have HU2 : Hid (Sl .i64 w (.slice ua n uc) (natL A)) := by have := HU.out; rw [← hA, natL_len, hAL] at this; exact this
    have HAL := hide' hAL
    rw [HN.out] at C hlen HYES ⊢
    clear hA hP hAL h2 HU HA hPP HN
    go_enter Tryz.func19, Tryz.ntmps19
    go_wp2_with fail
    refine C.out.mono ?_
    rintro e w1 ⟨rfl, he1⟩
    have X1 := hide' he1
    have hz1 := he1.size
    clear he1 C
    obtain ⟨w2, hmk, ho, he⟩ := make_bools w1 n (by omega)
    rw [← seenF_nil] at ho
    have HO := hide' (ho.low hz1)
    have HE := hide' (X1.out.trans he)
    clear ho he
    go_wp2
    clear hmk
    obtain ⟨g, HG⟩ : ∃ g, Hid (w1.heap.size = g) := ⟨_, rfl⟩
    rw [HG.out] at HO ⊢
    have Hg : Hid (w.heap.size ≤ g) := by show _ ≤ _; rw [← HG.out]; exact hz1
    clear HG hz1
    go_loopw [4, 15] (fun vo vi wr => ∃ (i : Nat) (cs : List (List Nat)) (us : List Value), i ≤ n ∧ vi = .int .i64 i ∧ Hid (CycTo (stepN A) n i cs) ∧ Hid (OwnB w.heap.size wr (.slice (some ⟨g, 0, none⟩) n n) (seenF n cs.flatten)) ∧
      Hid (OwnVI w.heap.size wr vo us) ∧ Hid (RowsI w.heap.size wr us (cs.map natL)) ∧ Hid (Ext w wr)) (fun _ vi _ => n - (intOf vi).toNat)
    case atStart => exact ⟨0, [], [], Nat.zero_le _, rfl, CycTo.start _ _, HO, OwnVI.nil _ _, RowsI.nil _ _, HE⟩
    case round =>
      clear HO HE
      obtain ⟨i, cs, us, hi, rfl, HT, HO, HV, HR, HE⟩ := hrel
      by_cases hlt : i < n
      · have hlt' : (i : Int) < n := by omega
        have hsz := HE.out.size
        have hcb := HO.out.cell (seenF_len _ _) i hlt
        rw [seenF_at _ hlt] at hcb
        by_cases hin : i ∈ cs.flatten
        · rw [decide_eq_true hin] at hcb
          have HT2 := hide' (HT.out.skip hin)
          clear hin
          go_wp2
          go_roundw
          case rel => exact ⟨i + 1, cs, us, by omega, by go_num, HT2, HO, HV, HR, HE⟩
          case measure => simp [intOf]; omega
        · rw [decide_eq_false hin] at hcb
          have HNI := hide' hin
          clear hin
          go_wp2_with fail
          refine (cycleFrom_any _ A cs n i g w.heap.size w wr HU2.out HE.out Hg.out HAL.out hlen HLT.out HINJ.out hlt HNI.out HT.out HO.out).mono ?_
          rintro e w2 ⟨c, s, rfl, ht, hob, how, hbt⟩
          have HT2 := hide' ht
          have HO2 := hide' hob
          have HBT := hide' hbt
          have HW2 := hide' (how.low hsz)
          have HEQ := hide' (Ext.but HE.out Hg.out hbt)
          have HV2 : Hid (OwnVI w.heap.size w2 u4 us) := OwnB.other HO.out HV.out (by decide) HBT.out
          have HR2 : Hid (RowsI w.heap.size w2 (us ++ [s]) ((cs ++ [c]).map natL)) := by
            show RowsI _ _ _ _
            rw [List.map_append]
            exact RowsI.app ⟨HR.out.1, fun j u hu => OwnB.other HO.out (HR.out.2 j u hu) (by decide) HBT.out⟩ (RowsI.single HW2.out)
          have LU : Hid (us.length + 1 ≤ 1000000) := by
            have h1 := HR.out.1
            rw [List.length_map] at h1
            have h3 := flatC_len HT.out.ne
            have h4 := nodup_permN_le HT.out.nodup HT.out.lt
            show _ ≤ _
            omega
          obtain ⟨ca, cc, hcs, _⟩ := id HW2.out.sl
          obtain ⟨m, HM⟩ : ∃ m, Hid ((natL c).length = m) := ⟨_, rfl⟩
          rw [HM.out] at hcs
          subst hcs
          have V2 := hide' (HV2.out.ext (ext_alloc w2 (.cells #[.slice ca m cc] 32)))
          have R2 := hide' (HR2.out.ext (ext_alloc w2 (.cells #[.slice ca m cc] 32)))
          have O2 := hide' (HO2.out.ext (ext_alloc w2 (.cells #[.slice ca m cc] 32)))
          have E2 := hide' (HEQ.out.trans (ext_alloc w2 (.cells #[.slice ca m cc] 32)))
          clear ht hob how hbt HV2 HR2 HO2 HEQ HBT HW2 HV HR HO HT HE
          go_wp2_with (at_builtin; refine wpList_snocVI _ rfl _ _ rfl w.heap.size _ us (.slice ca m cc) w2.heap.size rfl rfl ?c1 rfl V2.out LU.out E2.out.size ?_)
          case c1 => simp only [World.cell?, heap_alloc_top]; simp
          intro v1 w3 ho1 hg1
          have V3 := hide' ho1
          have R3 : Hid (RowsI w.heap.size w3 (us ++ [.slice ca m cc]) ((cs ++ [c]).map natL)) := RowsI.other R2.out V2.out hg1
          have O3 : Hid (OwnB w.heap.size w3 (.slice (some ⟨g, 0, none⟩) n n) (seenF n (cs ++ [c]).flatten)) := ownsI_other V2.out O2.out (by decide) hg1
          have E3 : Hid (Ext w w3) := Below.trans E2.out (ownsI_grown V2.out E2.out.size hg1)
          clear ho1 hg1 V2 R2 O2 E2
          go_wp2
          go_roundw
          case rel => exact ⟨i + 1, cs ++ [c], us ++ [.slice ca m cc], by omega, by go_num, HT2, O3, V3, R3, E3⟩
          case measure => simp [intOf]; omega
      · have hlt' : decide ((i : Int) < n) = false := by simp; omega
        have hin : n = i := by omega
        have HD := hide' (HYES.out _ (show CycOf (stepN A) n cs by have := HT.out; rw [← hin] at this; exact this.done))
        go_wp2
        go_ret2
        exact ⟨cs, _, us, rfl, HD.out, HV.out, HR.out, HE.out⟩
end Go.Proofs.YtlmbdafilboblaaGreat

/- Contract of bij.Back. -/
namespace Go.Proofs.YtlmbdafilboblaaGreat
set_option linter.unusedVariables false
set_option linter.unusedSimpArgs false
open Go.RowKit

set_option maxHeartbeats 4000000 in
theorem bjBack_any (v : Value) (l : List Int) (w : World) (hv : Sl .u8 w v l) (h8 : Bytes8 l) (hs : l.length ≤ 100000) :
    Calls Tryz.prog 8 #[v] w fun e w' => ∃ s r, e = .returned (.tuple #[r, .int .i64 0]) ∧ IsBack l s ∧ Own .u8 5 w.heap.size w' r s ∧ Ext w w' := by
  have HV := hide' hv
  have C := hide' (lfOf_any v l w hv h8 hs)
  have HOK := hide' (lf_ok l)
  have HCY := hide' (fun cs => lf_cyc (l := l) (cs := cs))
  have HIB : Hid (∀ cs, CycOf (rkN l) l.length cs → IsBack l (strB l cs).reverse) := fun cs h => ⟨cs, h, strB_rev l cs⟩
  have HLN : Hid ((natL (lfN l)).length ≤ 100000) := by show _ ≤ _; rw [natL_len, lfN_len]; exact hs
  have HLQ : Hid ((natL (lfN l)).length = l.length) := by show _ = _; rw [natL_len, lfN_len]
  obtain ⟨F, HF⟩ : ∃ F, Hid (natL (lfN l) = F) := ⟨_, rfl⟩
  rw [HF.out] at C HOK HCY HLN HLQ
  obtain ⟨a, c, rfl, _⟩ := hv
  obtain ⟨n, HN⟩ : ∃ n, Hid (l.length = n) := ⟨_, rfl⟩
  have d1 : decide ((100000 : Int) < (l.length : Int)) = false := by simp; omega
  rw [HN.out] at C HV HIB hs d1 HLQ HCY ⊢
  clear h8
  go_enter Tryz.func8, Tryz.ntmps8
  go_wp2_with fail
  refine C.out.mono ?_
  rintro e w1 ⟨r1, rfl, ho, he⟩
  have S1 := hide' ho.sl
  have X1 := hide' he
  clear ho he C
  go_wp2_with fail
  refine (lfCycles_any _ F w1 S1.out HLN.out).mono ?_
  rw [HOK.out]
  rintro e w2 ⟨cs, t, us, rfl, hcs, ho, hr, he⟩
  have V2 := hide' ho.sl
  have R2 := hide' hr.read
  have X2 := hide' (X1.out.trans he)
  have HC := hide' (HCY.out _ hcs)
  have HALL : Hid (cs.flatten.length = n) := by
    show _ = _
    rw [HC.out.all.length_eq, List.length_range]
  have hnum := hcs.num
  rw [List.length_map] at hnum
  clear ho hr he hcs S1 X1
  obtain ⟨ua, uc, hv2, _⟩ := id V2.out
  have hul : us.length = cs.length := by rw [R2.out.1, List.length_map]
  rw [hul] at hv2
  subst hv2
  obtain ⟨m, HM⟩ : ∃ m, Hid (cs.length = m) := ⟨_, rfl⟩
  have hm : m ≤ 100000 := by
    rw [← HM.out]
    exact Nat.le_trans hnum HLN.out
  have HROW : Hid (∀ k, k < m → ∃ g off u, ua = some ⟨g, off, none⟩ ∧ w2.cell? ⟨g, off + k, none⟩ = some u ∧ Sl .i64 w2 u (natL (cs.getD k []))) := fun k hk => by
    have := SlVI.row (hul ▸ V2.out) R2.out (k := k) (by rw [List.length_map, HM.out]; exact hk)
    rwa [getD_mapE] at this
  have HGOOD : Hid (∀ k, k < m → ∀ j, j < (cs.getD k []).length → (cs.getD k []).getD j 0 < n) := fun k hk j hj => by
    have hmem := getD_memL (cs := cs) (i := k) (by rw [HM.out]; exact hk)
    exact HC.out.ltC hmem (getN_mem hj)
  obtain ⟨O, HO⟩ : ∃ O : Nat → Nat, Hid (∀ i, (cs.take i).flatten.length = O i) := ⟨_, fun _ => rfl⟩
  have HOS : Hid (∀ i, i < m → O (i + 1) = O i + (cs.getD i []).length) := fun i hi => by
    have := take_flat_succ cs (i := i) (by rw [HM.out]; exact hi)
    rwa [HO.out, HO.out] at this
  have HOL : Hid (∀ i, O i ≤ n) := fun i => by rw [← HO.out, ← HALL.out]; exact take_flat_le cs i
  have HO0 : Hid (O 0 = 0) := by show _ = _; rw [← HO.out]; rfl
  have HOM : Hid (O m = n) := by show _ = _; rw [← HO.out, ← HM.out, List.take_length]; exact HALL.out
  have HXA : Hid (∀ i j, i < m → j < (cs.getD i []).length → (strB l cs).getD (O i + j) 0 = l.getD ((cs.getD i []).getD j 0) 0) := fun i j hi hj => by
    have := strB_at (l := l) (cs := cs) (i := i) (j := j) (by rw [HM.out]; exact hi) hj
    rwa [HO.out] at this
  have HI := hide' (HIB.out _ HC.out)
  have HXL : Hid ((strB l cs).length = n) := by show _ = _; rw [strB_len]; exact HALL.out
  obtain ⟨X, HX⟩ : ∃ X, Hid (strB l cs = X) := ⟨_, rfl⟩
  rw [HX.out] at HXA HI HXL
  have HR0 : Hid (List.replicate n 0 = fillR X n 0) := (fillR_zero X n).symm
  have HRN : Hid (∀ k, k < n → (fillR X n k).set (n - 1 - k) (X.getD k 0) = fillR X n (k + 1)) := fun k hk => fillR_next HXL.out hk
  have HRL : Hid (∀ k, k ≤ n → (fillR X n k).length = n) := fun k hk => fillR_len HXL.out hk
  have HRA : Hid (fillR X n n = X.reverse) := fillR_all HXL.out
  obtain ⟨R, HRR⟩ : ∃ R : Nat → List Int, Hid (∀ k, fillR X n k = R k) := ⟨_, fun _ => rfl⟩
  rw [HRR.out] at HR0 HRA
  have HRN2 : Hid (∀ k, k < n → (R k).set (n - 1 - k) (X.getD k 0) = R (k + 1)) := fun k hk => by have := HRN.out k hk; rwa [HRR.out, HRR.out] at this
  have HRL2 : Hid (∀ k, k ≤ n → (R k).length = n) := fun k hk => by have := HRL.out k hk; rwa [HRR.out] at this
  rw [HM.out]
  have VA : Hid (0 < n → ∃ b off, a = some ⟨b, off, none⟩ ∧ ∀ W j, Ext w W → j < n → W.cell? ⟨b, off + j, none⟩ = some (.int .u8 (l.getD j 0))) := fun h0 => by
    obtain ⟨_, b, off, h1, h2⟩ := HV.out.at (fun e => by have := HN.out; rw [e] at this; simp at this; omega)
    exact ⟨b, off, h1, fun W j he hj => he.cellOf (h2 j hj)⟩
  obtain ⟨w3, hmk, ho3, he3⟩ := make_bytes w2 n (by omega)
  rw [HR0.out] at ho3
  have O3 := hide' ho3
  have X3 := hide' he3
  clear ho3 he3 hul V2 R2 hnum HRN HRL HRR HCY HIB
  go_wp2
  clear hmk
  obtain ⟨g, HG⟩ : ∃ g, Hid (w2.heap.size = g) := ⟨_, rfl⟩
  rw [HG.out] at O3 ⊢
  go_loopw [7, 28] (fun ve vi wr => ∃ (i : Nat), i ≤ m ∧ vi = .int .i64 i ∧ ve = .int .i64 ((n - O i : Nat) : Int) ∧ Hid (Own .u8 5 g wr (.slice (some ⟨g, 0, none⟩) n n) (R (O i))) ∧ Hid (Ext w2 wr)) (fun _ vi _ => m - (intOf vi).toNat)
  case atStart => exact ⟨0, Nat.zero_le _, rfl, by rw [HO0.out]; rfl, (by show Own _ _ _ _ _ _; rw [HO0.out]; exact O3.out), X3⟩
  case round =>
    clear O3 X3
    obtain ⟨i, hi, rfl, rfl, HQ, HE⟩ := hrel
    by_cases hlt : i < m
    · have hlt' : (i : Int) < m := by omega
      obtain ⟨cg, coff, u, rfl, hc, hsl⟩ := HROW.out i hlt
      have hc := HE.out.cellOf hc
      have HSL := hide' hsl
      have HGI := hide' (HGOOD.out i hlt)
      have HXI := hide' (fun j => HXA.out i j hlt)
      have HSI := hide' (HOS.out i hlt)
      obtain ⟨C, HCC⟩ : ∃ C, Hid (cs.getD i [] = C) := ⟨_, rfl⟩
      rw [HCC.out] at HSL HGI HXI HSI
      obtain ⟨ca, cc, hu, _⟩ := id HSL.out
      obtain ⟨L, HL⟩ : ∃ L, Hid (C.length = L) := ⟨_, rfl⟩
      rw [natL_len, HL.out] at hu
      subst hu
      rw [HL.out] at HGI HXI HSI
      have hLn : O i + L ≤ n := by rw [← HSI.out]; exact HOL.out (i + 1)
      have CA : Hid (0 < L → ∃ b off, ca = some ⟨b, off, none⟩ ∧ ∀ W j, Ext w2 W → j < L → W.cell? ⟨b, off + j, none⟩ = some (.int .i64 ((C.getD j 0 : Nat) : Int))) := fun h0 => by
        obtain ⟨_, b, off, h1, h2⟩ := HSL.out.at (fun e => by have := congrArg List.length e; rw [natL_len, HL.out, List.length_nil] at this; omega)
        exact ⟨b, off, h1, fun W j he hj => by have := he.cellOf (h2 j hj); rwa [natL_at] at this⟩
      obtain ⟨K, HK⟩ : ∃ K, Hid (O i = K) := ⟨_, rfl⟩
      rw [HK.out] at HXI HSI hLn HQ ⊢
      have HQ0 : Hid (Own .u8 5 g wr (.slice (some ⟨g, 0, none⟩) n n) (R (K + 0))) := HQ.out
      clear hsl
      go_wp2
      go_loopw [7, 34] (fun ve vj wr => ∃ (j : Nat), j ≤ L ∧ vj = .int .i64 j ∧ ve = .int .i64 ((n - (K + j) : Nat) : Int) ∧ Hid (Own .u8 5 g wr (.slice (some ⟨g, 0, none⟩) n n) (R (K + j))) ∧ Hid (Ext w2 wr)) (fun _ vj _ => L - (intOf vj).toNat)
      case atStart => exact ⟨0, Nat.zero_le _, rfl, rfl, HQ0, HE⟩
      case round =>
        clear HQ HQ0 HE hc
        obtain ⟨j, hj, rfl, rfl, HQ, HE⟩ := hrel
        by_cases hlt3 : j < L
        · have hlt3' : (j : Int) < L := by omega
          obtain ⟨cb, cf, rfl, k1⟩ := CA.out (by omega)
          have c1 := k1 wr j HE.out hlt3
          have hp := HGI.out j hlt3
          have HXJ := hide' (HXI.out j hlt3)
          obtain ⟨b, o, rfl, k2⟩ := VA.out (by omega)
          obtain ⟨p, HPP⟩ : ∃ p, Hid (C.getD j 0 = p) := ⟨_, rfl⟩
          rw [HPP.out] at c1 hp HXJ
          have c2 := k2 wr p (X2.out.trans HE.out) hp
          have hp' : (p : Int) < n := by omega
          have HNX := hide' (HRN2.out (K + j) (by omega))
          rw [HXJ.out] at HNX
          obtain ⟨z, HZ⟩ : ∃ z, Hid (l.getD p 0 = z) := ⟨_, rfl⟩
          rw [HZ.out] at c2 HNX
          obtain ⟨J, HJ⟩ : ∃ J, Hid (n - 1 - (K + j) = J) := ⟨_, rfl⟩
          have hJ : J < n := by have := HJ.out; omega
          have hJ' : (J : Int) < n := by omega
          have hJ2 : ((n - (K + j) : Nat) : Int) - 1 = (J : Int) := by have := HJ.out; omega
          rw [HJ.out] at HNX
          have HLQ2 := hide' (HRL2.out (K + j) (by omega))
          have c3 := HQ.out.cell HLQ2.out J hJ
          have z3 := HQ.out.frozen HLQ2.out J
          have HQ2 : Hid (Own .u8 5 g (wr.setCell ⟨g, J, none⟩ (.int .u8 z)) (.slice (some ⟨g, 0, none⟩) n n) (R (K + (j + 1)))) := by
            show Own _ _ _ _ _ _
            rw [← Nat.add_assoc, ← HNX.out]
            exact HQ.out.store HLQ2.out J z
          have HE2 := hide' (Ext.but HE.out (Nat.le_of_eq HG.out) (but_set wr g J (.int .u8 z)))
          have hJ3 : (J : Int) = ((n - (K + (j + 1)) : Nat) : Int) := by have := HJ.out; omega
          have HJ3 := hide' hJ3
          obtain ⟨N1, HN1⟩ : ∃ N1 : Int, Hid (((n - (K + j) : Nat) : Int) = N1) := ⟨_, rfl⟩
          rw [HN1.out] at hJ2 ⊢
          clear k1 k2 HXJ HNX hJ3
          go_wp2
          go_roundw
          case rel => exact ⟨j + 1, by omega, by go_num, by rw [HJ3.out], HQ2, HE2⟩
          case measure => simp [intOf]; omega
        · have hlt3' : decide ((j : Int) < L) = false := by simp; omega
          have hjL : j = L := by omega
          have hRK : Hid (K + j = O (i + 1)) := by show _ = _; rw [hjL]; exact HSI.out.symm
          rw [hRK.out] at HQ
          have HV7 := hide' (congrArg (fun k : Nat => ((n - k : Nat) : Int)) hRK.out)
          clear hjL
          go_wp2
          go_roundw
          case rel => exact ⟨i + 1, by omega, by go_num, congrArg (Value.int .i64) HV7.out, HQ, HE⟩
          case measure => simp [intOf]; omega
    · have hlt' : decide ((i : Int) < m) = false := by simp; omega
      have hin : i = m := by omega
      have HF9 : Hid (Own .u8 5 w.heap.size wr (.slice (some ⟨g, 0, none⟩) n n) X.reverse) := by
        have := HQ.out
        rw [hin, HOM.out, HRA.out] at this
        exact this.low (by rw [← HG.out]; exact X2.out.size)
      have HE9 := hide' (X2.out.trans HE.out)
      clear hin
      go_wp2
      go_ret2
      exact ⟨_, _, rfl, HI.out, HF9.out, HE9.out⟩
theorem bjBack_long (v : Value) (s : List Int) (w : World) (hv : Sl .u8 w v s) (hs : 100000 < s.length) :
    Calls Tryz.prog 8 #[v] w fun e w' => e = .returned (.tuple #[.slice none 0 0, .int .i64 2]) ∧ Ext w w' := by
  obtain ⟨va, vc, rfl, _⟩ := hv
  have d1 : (100000 : Int) < (s.length : Int) := by omega
  clear hs
  go_enter Tryz.func8, Tryz.ntmps8
  go_wp2
  go_ret2
  exact ⟨rfl, Ext.refl _⟩
end Go.Proofs.YtlmbdafilboblaaGreat

/- Contracts of bij.Turn and bij.Back. -/
namespace Go.Proofs.YtlmbdafilboblaaGreat
end Go.Proofs.YtlmbdafilboblaaGreat

/- What is turned has the text's letters; of one that is less than all its endings the last one comes first. Plain numbers. -/
namespace Go.Proofs.YtlmbdafilboblaaGreat
set_option linter.unusedVariables false
set_option linter.unusedSimpArgs false

theorem bjMap_getI (l : List Int) : (List.range l.length).map (fun k => l.getD k 0) = l := by
  refine List.ext_getElem (by simp) fun i h1 h2 => ?_
  simp [List.getD_eq_getElem?_getD, List.getElem?_eq_getElem h2]
theorem IsBack.perm {l s : List Int} (h : IsBack l s) : s.Perm l := by
  obtain ⟨cs, h1, rfl⟩ := h
  have e1 : (cs.reverse.map (wordOf l)).flatten.Perm ((cs.reverse.flatten).map fun k => l.getD k 0) := by
    rw [← List.flatMap_def, List.map_flatten, ← List.flatMap_def]
    exact flatMap_permI fun c _ => (List.reverse_perm c).map _
  refine e1.trans ((((List.reverse_perm cs).flatten.map fun k => l.getD k 0).trans (h1.all.map _)).trans ?_)
  rw [bjMap_getI]
theorem IsTurn.isBack {s l : List Int} (h8 : ∀ z ∈ s, 0 ≤ z ∧ z ≤ 255) (h : IsTurn s l) : IsBack l s := by
  obtain ⟨x, hx⟩ := isBack_some l
  have := h.back h8 hx
  rwa [this] at hx
theorem IsTurn.perm {s l : List Int} (h8 : ∀ z ∈ s, 0 ≤ z ∧ z ≤ 255) (h : IsTurn s l) : l.Perm s := (h.isBack h8).perm.symm
theorem IsTurn.len {s l : List Int} (h8 : ∀ z ∈ s, 0 ≤ z ∧ z ≤ 255) (h : IsTurn s l) : l.length = s.length := (h.perm h8).length_eq
theorem facW_lyn {s : List Int} (h : Lyn s) : facW s = [s] := by
  rw [facW_cons h.1, (lyn_longI h.1).1 h, List.take_length, List.drop_length, facW_nil]
theorem IsTurn.first {s l : List Int} (h8 : ∀ z ∈ s, 0 ≤ z ∧ z ≤ 255) (h : IsTurn s l) (hs : Lyn s) : l.getD 0 0 = s.getD (s.length - 1) 0 := by
  obtain ⟨cs, h1, e1⟩ := h.isBack h8
  have h2 := back_fac h1
  rw [← e1, facW_lyn hs] at h2
  obtain ⟨c, hc⟩ : ∃ c, cs = [c] := by
    have := congrArg List.length h2
    rw [List.length_map, List.length_reverse] at this
    exact List.length_eq_one_iff.1 this.symm
  subst hc
  have hsc : s = wordOf l c := by simpa using h2
  have hmem : c ∈ [c] := List.mem_singleton.2 rfl
  have hlen : c.length = s.length := by rw [hsc, wordOf_len]
  have hll := h.len h8
  have hs0 := hs.1
  have hall := h1.all
  have h0 : 0 ∈ c := by
    have : 0 ∈ [c].flatten := hall.mem_iff.2 (List.mem_range.2 (by omega))
    simpa using this
  have hc0 : c.getD 0 0 = 0 := by
    have := h1.least c hmem 0 h0
    omega
  have h3 := wordOf_at l (c := c) (a := c.length - 1) (by omega)
  rw [← hsc, show c.length - 1 - (c.length - 1) = 0 by omega, hc0, hlen] at h3
  exact h3.symm
theorem perm_rep {l : List Int} {n : Nat} {c : Int} (h : l.Perm (List.replicate n c)) : l = List.replicate n c := by
  rw [List.eq_replicate_iff]
  refine ⟨by rw [h.length_eq, List.length_replicate], fun x hx => ?_⟩
  exact (List.mem_replicate.1 (h.mem_iff.1 hx)).2
end Go.Proofs.YtlmbdafilboblaaGreat
