/- An append to the call's own row within a region that draws its order, of whatever row is made in that region: it stays the call's own. Over any program; no conditions. -/
import Derived.Test.YtmnbjikhjdmmfaaPart5
import Derived.Laws.AppendOwnNone
namespace Go.Proofs.Ytmnbjikhjdmmfaa
set_option linter.unusedVariables false
set_option linter.unusedSimpArgs false
open Go.RowKit

theorem append_GO {P : Program} {k : IntKind} (w0 : World) (B : Nat) (t e : TypeId) (bytes : Nat) (ht : P.underlying t = some (.slice e))
    (hinfo : (P.info? e).map (fun i => (i.zero, i.size, i.bytes)) = some (some (.int k 0), 1, bytes)) (v : Value) (acc ys : List Int)
    (hown : Own k e B w0 v acc) (hlen : (acc.length + ys.length) * bytes ≤ 140737488355328 ∧ acc.length + ys.length ≤ maxLen) (hB : B ≤ w0.heap.size) :
    ∃ go, (∀ j o, go = some (j, o) → v.ownBlock = some j ∧ B ≤ j ∧ j < w0.heap.size) ∧ ∀ ty w x, ExtG go w0 w → Sl k w x ys → (ys = [] ∨ ∀ g ad n c, v.ownBlock = some g → x = .slice (some ad) n c → ad.block ≠ g) →
      ∃ u w', (Builtin.append_ #[t, t] ty #[v, x]).run P w = .ok u w' ∧ ExtG go w w' ∧ (∀ w'', ExtG go w' w'' → Own k e B w'' u (acc ++ ys)) ∧ (u.ownBlock = v.ownBlock ∨ ∀ j, u.ownBlock = some j → w.heap.size ≤ j) := by
  obtain ⟨i0, hi, hz0, hz1, hz2⟩ := info_parts hinfo
  by_cases hroom : ∃ g cap cur, v = .slice (some ⟨g, 0, none⟩) acc.length cap ∧ B ≤ g ∧ w0.heap[g]? = some (.cells cur e (0, 0)) ∧ acc.length + ys.length ≤ cap ∧ cap ≤ maxLen ∧ cur.size = cap ∧ cur.toList.take acc.length = acc.map (Value.int k)
  · obtain ⟨g, cap, cur, rfl, hBg, hg, hroom, hcm, hcs, htk⟩ := hroom
    have hgl : g < w0.heap.size := (Array.getElem?_eq_some_iff.1 hg).1
    let row : List Value := acc.map (Value.int k) ++ ys.map (Value.int k) ++ cur.toList.drop (acc.length + ys.length)
    have hrl : row.length = cap := by simp [row]; omega
    refine ⟨some (g, .cells row.toArray e (0, 0)), fun j o h => ?_, fun ty w x hw hx hne => ?_⟩
    · simp only [Option.some.injEq, Prod.mk.injEq] at h
      obtain ⟨rfl, _⟩ := h
      exact ⟨rfl, hBg, hgl⟩
    obtain ⟨cur', hg', hs', ht', hd'⟩ : ∃ cur' : Array Value, w.heap[g]? = some (.cells cur' e (0, 0)) ∧ cur'.size = cap ∧ cur'.toList.take acc.length = acc.map (Value.int k) ∧ cur'.toList.drop (acc.length + ys.length) = cur.toList.drop (acc.length + ys.length) := by
      rcases hw.block g hgl with h | ⟨o, h1, h2⟩
      · exact ⟨cur, h.trans hg, hcs, htk, rfl⟩
      · simp only [Option.some.injEq, Prod.mk.injEq, true_and] at h1
        rw [← h1] at h2
        refine ⟨_, h2, by simpa using hrl, ?_, ?_⟩
        · show row.take acc.length = _
          have e1 : acc.length = (acc.map (Value.int k)).length := by simp
          simp only [row, List.append_assoc]
          rw [e1]; exact List.take_left
        · show row.drop (acc.length + ys.length) = _
          have e1 : acc.length + ys.length = (acc.map (Value.int k) ++ ys.map (Value.int k)).length := by simp
          simp only [row]
          rw [e1]; exact List.drop_left
    have own' : ∀ w'' : World, w''.heap[g]? = some (.cells row.toArray e (0, 0)) → Own k e B w'' (.slice (some ⟨g, 0, none⟩) (acc.length + ys.length) cap) (acc ++ ys) := fun w'' hf => by
      refine ⟨by simp, .inr ⟨g, cap, row.toArray, by rw [List.length_append], hBg, hf, by rw [List.length_append]; exact hroom, hcm, by simpa using hrl, ?_⟩⟩
      show row.take _ = _
      have e1 : (acc ++ ys).length * 1 = (acc.map (Value.int k) ++ ys.map (Value.int k)).length := by simp
      simp only [row]
      rw [e1, List.take_left, List.map_append]
    obtain ⟨ad, c, rfl, hx1, hx2, hx3, hx4⟩ := id hx
    cases ad with
    | none =>
      have hy : ys = [] := List.length_eq_zero_iff.1 (by have := hx3 rfl; omega)
      subst hy
      have hc := hx3 rfl
      subst hc
      have ho : w.ownsRow B e 1 (.slice (some ⟨g, 0, none⟩) acc.length cap) acc.length (acc.map (Value.int k)) := ⟨by simp, .inr ⟨g, cap, cur', rfl, hBg, hg', by simpa using hroom, hcm, by simpa using hs', by simpa using ht'⟩⟩
      refine ⟨_, w, run_append_owned_none (P := P) (w := w) B t ty e i0 1 ht hi _ _ _ ho, ExtG.refl _, fun w'' hw'' => ?_, .inl rfl⟩
      have hgl' : g < w.heap.size := (Array.getElem?_eq_some_iff.1 hg').1
      rcases hw''.block g hgl' with h | ⟨o, h1, h2⟩
      · rw [List.append_nil]
        exact ⟨by simp, .inr ⟨g, cap, cur', rfl, hBg, h.trans hg', by simpa using hroom, hcm, by simpa using hs', by simpa using ht'⟩⟩
      · simp only [Option.some.injEq, Prod.mk.injEq, true_and] at h1
        have := own' w'' (by rw [h2, h1])
        simpa using this
    | some ad =>
      have hnews : ∀ j u, (ys.map (Value.int k))[j]? = some u → w.cell? (ad.add j) = some u := fun j u hj => hx.newsOf.2 j u hj
      have hr := run_append_room (P := P) w t ty e i0 ht hi g acc.length cap cur' hg' ad ys.length c (ys.map (Value.int k)) (by simp [hz1]) hnews (ints_one ys) hroom (by simp [hz1]; omega)
      rw [hz1, Nat.mul_one, ht', List.length_map, hd'] at hr
      have hset := setRow_heap w g cur' row.toArray e (0, 0) hg'
      refine ⟨_, _, hr, ⟨rfl, rfl, rfl, by simp [World.setRow], fun j hj => ?_⟩, fun w'' hw'' => ?_, .inl rfl⟩
      · by_cases hjg : j = g
        · subst hjg; exact .inr ⟨_, rfl, hset⟩
        · exact .inl (setRow_other w g j _ hjg)
      · have hgl' : g < (w.setRow g row.toArray).heap.size := (Array.getElem?_eq_some_iff.1 hset).1
        refine own' w'' ?_
        rcases hw''.block g hgl' with h | ⟨o, h1, h2⟩
        · exact h.trans hset
        · simp only [Option.some.injEq, Prod.mk.injEq, true_and] at h1
          rw [h1]; exact h2
  · refine ⟨none, fun j o h => (by cases h), fun ty w x hw hx _ => ?_⟩
    have hown' := hown.ext hw.ext
    have hB' : B ≤ w.heap.size := Nat.le_trans hB hw.size
    have hsmall : acc.length + ys.length ≤ 9223372036854775807 := by have := hlen.2; simp only [maxLen] at this; omega
    have hzc : (Value.int k 0).cells.size = 1 := rfl
    have new : ∀ (w : World), B ≤ w.heap.size → ∀ (cap : Nat), acc.length + ys.length ≤ cap → cap ≤ maxLen → ∀ w'', Ext (w.drew.alloc (.cells ((acc.map (Value.int k)).toArray ++ (ys.map (Value.int k)).toArray ++ Builtin.zeroCells (Value.int k 0).cells (cap - (acc.length + ys.length))) e)) w'' →
        Own k e B w'' (.slice (some ⟨w.heap.size, 0, none⟩) (acc.length + ys.length) cap) (acc ++ ys) := fun w hBw cap h1 h2 w'' hw'' => by
      refine Own.ext ?_ hw''
      refine ⟨by simp, .inr ⟨w.heap.size, cap, _, by rw [List.length_append], hBw, heap_alloc_new w.drew _, by rw [List.length_append]; exact h1, h2, ?_, ?_⟩⟩
      · simp only [Array.size_append, List.size_toArray, size_zeroCells, hzc, List.length_map]
        omega
      · have e1 : (acc ++ ys).length * 1 = (acc.map (Value.int k) ++ ys.map (Value.int k)).length := by simp
        rw [e1]
        simp only [Array.toList_append]
        rw [List.take_left, List.map_append]
    obtain ⟨ad, c, rfl, hx1, hx2, hx3, hx4⟩ := id hx
    cases ad with
    | none =>
      have hc := hx3 rfl
      subst hc
      have hy : ys = [] := List.length_eq_zero_iff.1 (by omega)
      subst hy
      refine ⟨v, w, run_append_owned_none (P := P) (w := w) B t ty e i0 1 ht hi v _ _ hown', ExtG.refl _, fun w'' hw'' => ?_, .inl rfl⟩
      rw [List.append_nil]
      exact hown'.ext hw''.ext
    | some ad =>
      have hnews : ∀ j u, (ys.map (Value.int k))[j]? = some u → w.cell? (ad.add j) = some u := fun j u hj => hx.newsOf.2 j u hj
      rcases hown.2 with ⟨rfl, h0⟩ | ⟨g, cap, cur, rfl, hbg, hg, hnc, hcm, hcs, htake⟩
      · have ha : acc = [] := List.length_eq_zero_iff.1 h0
        subst ha
        by_cases hm : ys.length = 0
        · have hy : ys = [] := List.length_eq_zero_iff.1 hm
          subst hy
          refine ⟨.slice none 0 0, w, ?_, ExtG.refl _, fun w'' hw'' => Own.nil k e B w'', .inl rfl⟩
          simp [Builtin.append_, run_underlying ht, sizeOf, typeInfo, hi, Builtin.lenOf, Builtin.firstCells, loadCells, loadCellsFrom]
        · have hr := run_append_nil (P := P) w t ty e i0 (.int k 0) ht hi hz0 ad ys.length c (ys.map (Value.int k)) (by simp [hz1]) hnews (by omega) (by simp at hsmall; omega) (by rw [hz2]; have := hlen.1; simp at this; omega)
          refine ⟨_, _, hr, ExtG.ofExt ⟨rfl, rfl, rfl, by simp, fun j hj => heap_alloc_old w.drew _ hj⟩, fun w'' hw'' => ?_, .inr fun j hj => by simp only [Value.ownBlock, Option.some.injEq] at hj; omega⟩
          have hge := grownCap_ge w ys.length 0 e
          have hcm : grownCap w ys.length 0 e ≤ maxLen := grownCap_le_maxLen w ys.length 0 e (by have := hlen.2; simpa using this)
          have := new w hB' (grownCap w ys.length 0 e) (by simpa using hge) hcm w'' (by simpa using hw''.ext)
          simpa using this
      · have hno : ¬ acc.length + ys.length ≤ cap := fun hle => hroom ⟨g, cap, cur, rfl, hbg, hg, hle, hcm, by simpa using hcs, by simpa using htake⟩
        have holds : ∀ j u, (acc.map (Value.int k))[j]? = some u → w.cell? ((⟨g, 0, none⟩ : Addr).add j) = some u := World.ownsRow.cells hown' (g := g) rfl
        have hr := run_append_grow (P := P) w t ty e i0 (.int k 0) ht hi hz0 ⟨g, 0, none⟩ acc.length cap (acc.map (Value.int k)) (by simp [hz1]) holds ad ys.length c (ys.map (Value.int k)) (by simp [hz1]) hnews (by omega) (by omega) (by rw [hz2]; exact growslice_fits (by omega) hlen.1)
        refine ⟨_, _, hr, ExtG.ofExt ⟨rfl, rfl, rfl, by simp, fun j hj => heap_alloc_old w.drew _ hj⟩, fun w'' hw'' => ?_, .inr fun j hj => by simp only [Value.ownBlock, Option.some.injEq] at hj; omega⟩
        exact new w hB' _ (grownCap_ge w _ cap e) (grownCap_le_maxLen w _ cap e hlen.2) w'' hw''.ext

/-- A row above what may be turned stays the call's own. -/
theorem Own.upG {k : IntKind} {e : TypeId} {B : Nat} {go : Option (Nat × Obj)} {v : Value} {zs : List Int} (hgo : ∀ j o, go = some (j, o) → j < B) : KR.UpW (grel go) (fun w => Own k e B w v zs) := fun w w' he h => by
  refine h.same fun j hj => ?_
  obtain ⟨_, h2⟩ := h
  rcases h2 with ⟨h2, _⟩ | ⟨g, cap, cur, h2, h3, h4, _⟩
  · rw [h2] at hj; cases hj
  · rw [h2] at hj
    simp only [Value.ownBlock, Option.some.injEq] at hj
    subst hj
    rcases he.block g (Array.getElem?_eq_some_iff.1 h4).1 with e1 | ⟨o, e1, _⟩
    · exact e1
    · have := hgo g o e1
      omega
theorem Ext.trans_G {go : Option (Nat × Obj)} {w a b : World} (h : Ext w a) (k : ExtG go a b) (hgo : ∀ j o, go = some (j, o) → w.heap.size ≤ j) : Ext w b :=
  ⟨k.os.trans h.os, k.tape.trans h.tape, k.output.trans h.output, Nat.le_trans h.size k.size, fun i hi => by
    rcases k.block i (Nat.lt_of_lt_of_le hi h.size) with e | ⟨o, e, _⟩
    · exact e.trans (h.block i hi)
    · have := hgo i o e; omega⟩

/-- An append to the call's own row: it lies where it lay, or in a new block. -/
theorem wpList_joinN {P : Program} (w : World) {ops : Array Oper} {rest : List Oper} {o : Oper} {a : Act} {Q : Exit → Act → World → Prop} (hgd : o.guard = none) (s x : Operand) (t : TypeId)
    (ho : o.op = .call { callee := .builtin .append, args := #[s, x], argTypes := #[t, t] }) (e : TypeId) (k : IntKind) (bytes : Nat) (ht : P.underlying t = some (.slice e))
    (hinfo : (P.info? e).map (fun i => (i.zero, i.size, i.bytes)) = some (some (.int k 0), 1, bytes)) (B : Nat) (v u : Value) (zs ys : List Int) (hs : a.eval s = v) (hx : a.eval x = u)
    (hown : Own k e B w v zs) (hsl : Sl k w u ys) (hap : ys = [] ∨ ∀ g ad n c, v.ownBlock = some g → u = .slice (some ad) n c → ad.block ≠ g) (hlen : (zs.length + ys.length) * bytes ≤ 140737488355328 ∧ zs.length + ys.length ≤ maxLen) (hB : B ≤ w.heap.size)
    (h : ∀ v' w', Own k e B w' v' (zs ++ ys) → w.grownBy w' v.ownBlock → (v'.ownBlock = v.ownBlock ∨ ∀ j, v'.ownBlock = some j → w.heap.size ≤ j) → wpList P ops Q rest (a.put o.dst v') w') : wpList P ops Q (o :: rest) a w := by
  obtain ⟨go, hgo, hap2⟩ := append_GO (P := P) w B t e bytes ht hinfo v zs ys hown hlen hB
  obtain ⟨v', w', hr, h2, h3, h4⟩ := hap2 o.type w u (ExtG.refl _) hsl hap
  refine wpList_plain hgd fun _ hK => ?_
  unfold Oper.wp execOp
  simp only [ho, resolve, invoke, builtin, Sem.run_bind, Sem.run_pure, Result.andThen_ok, List.map_toArray, List.map_cons, List.map_nil, hs, hx, hr]
  refine hK _ _ (h v' w' (h3 w' (ExtG.refl _)) ⟨h2.os, h2.tape, h2.output, h2.size, fun j hj hne => ?_⟩ h4)
  rcases h2.block j hj with e1 | ⟨o', e1, _⟩
  · exact e1
  · exact absurd (hgo j o' e1).1.symm hne
/-- A row lies in no block of another type. -/
theorem Own.tagged {k : IntKind} {e T : TypeId} {B b : Nat} {w : World} {v : Value} {zs : List Int} {cs : Array Value} {fz : Nat × Nat} (h : Own k e B w v zs) (hb : w.heap[b]? = some (.cells cs T fz)) (hne : e ≠ T) : v.ownBlock ≠ some b := by
  intro hv
  obtain ⟨_, h2⟩ := h
  rcases h2 with ⟨h2, _⟩ | ⟨g, cap, cur, h2, h3, h4, _⟩
  · rw [h2] at hv; cases hv
  · rw [h2] at hv
    simp only [Value.ownBlock, Option.some.injEq] at hv
    subst hv
    rw [hb] at h4
    simp only [Option.some.injEq, Obj.cells.injEq] at h4
    exact hne h4.2.1.symm
end Go.Proofs.Ytmnbjikhjdmmfaa
