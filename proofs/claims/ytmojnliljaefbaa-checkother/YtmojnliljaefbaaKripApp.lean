/- An append within a region that draws its order: one block may turn into one known row, once; all else that there was is as it was. Over any program; no conditions. -/
import Derived.Test.YtmojnliljaefbaaKripR
import Derived.Test.YtmojnliljaefbaaBut
import Derived.Laws.OwnMore
namespace Go.Proofs.Ytmojnliljaefbaa
set_option linter.unusedVariables false
set_option linter.unusedSimpArgs false
open Go.RowKit

/-- All that there was is as it was, but that the block of 'go' may have become what 'go' says. -/
structure ExtG (go : Option (Nat × Obj)) (w w' : World) : Prop where
  os : w'.os = w.os
  tape : w'.tape = w.tape
  output : w'.output = w.output
  size : w.heap.size ≤ w'.heap.size
  block : ∀ k, k < w.heap.size → w'.heap[k]? = w.heap[k]? ∨ ∃ o, go = some (k, o) ∧ w'.heap[k]? = some o

section
variable {go : Option (Nat × Obj)} {a b c w w' : World}
theorem ExtG.refl (w : World) : ExtG go w w := ⟨rfl, rfl, rfl, Nat.le_refl _, fun _ _ => .inl rfl⟩
theorem ExtG.trans (h : ExtG go a b) (k : ExtG go b c) : ExtG go a c := by
  refine ⟨k.os.trans h.os, k.tape.trans h.tape, k.output.trans h.output, Nat.le_trans h.size k.size, fun i hi => ?_⟩
  rcases k.block i (Nat.lt_of_lt_of_le hi h.size) with e | e
  · rcases h.block i hi with e' | ⟨o, h1, h2⟩
    · exact .inl (e.trans e')
    · exact .inr ⟨o, h1, e.trans h2⟩
  · exact .inr e
def grel (go : Option (Nat × Obj)) : KRel := ⟨ExtG go, ExtG.refl, ExtG.trans, fun w => ⟨rfl, rfl, rfl, Nat.le_refl _, fun _ _ => .inl rfl⟩⟩
theorem ExtG.ofExt (h : Ext w w') : ExtG go w w' := ⟨h.os, h.tape, h.output, h.size, fun k hk => .inl (h.block k hk)⟩
theorem ExtG.below {B : Nat} (h : ExtG go w w') (hgo : ∀ k o, go = some (k, o) → B ≤ k) (hB : B ≤ w.heap.size) : Below B w w' :=
  ⟨h.os, h.tape, h.output, h.size, fun k hk => by
    rcases h.block k (by omega) with e | ⟨o, h1, _⟩
    · exact e
    · have := hgo k o h1; omega⟩
theorem ExtG.ext (h : ExtG none w w') : Ext w w' := ⟨h.os, h.tape, h.output, h.size, fun k hk => by
    rcases h.block k hk with e | ⟨o, h1, _⟩
    · exact e
    · cases h1⟩
end

theorem Sl.newRow {k : IntKind} {e : TypeId} (w : World) (zs : List Int) (r : Array Value) (n c : Nat) (hn : n = zs.length) (hc : n ≤ c) (hm : c ≤ maxLen) :
    Sl k (w.drew.alloc (.cells ((zs.map (Value.int k)).toArray ++ r) e)) (.slice (some ⟨w.heap.size, 0, none⟩) n c) zs := by
  subst hn
  refine ⟨_, c, rfl, hc, hm, (fun h => by cases h), .inr ⟨w.heap.size, 0, rfl, fun i hi => ?_⟩⟩
  have h : (w.drew.alloc (.cells ((zs.map (Value.int k)).toArray ++ r) e)).heap[w.heap.size]? = some (.cells ((zs.map (Value.int k)).toArray ++ r) e) := heap_alloc_new w.drew _
  simp only [World.cell?, h]
  rw [Nat.zero_add, Array.getElem?_append_left (by simpa using hi)]
  simp [hi]

theorem Sl.newsOf {k : IntKind} {w : World} {ad : Addr} {n c : Nat} {ys : List Int} (h : Sl k w (.slice (some ad) n c) ys) : ys.length = n ∧ ∀ j u, (ys.map (Value.int k))[j]? = some u → w.cell? (ad.add j) = some u := by
  obtain ⟨a', c', h1, h2, h3, h4, h5⟩ := h
  simp only [Value.slice.injEq] at h1
  obtain ⟨rfl, rfl, rfl⟩ := h1
  refine ⟨rfl, fun j u hj => ?_⟩
  rcases h5 with rfl | ⟨b, off, hb, h6⟩
  · simp at hj
  · simp only [Option.some.injEq] at hb
    subst hb
    have hjl : j < ys.length := by
      rcases Nat.lt_or_ge j ys.length with g | g
      · exact g
      · simp [List.getElem?_eq_none (show (ys.map (Value.int k)).length ≤ j by simpa using g)] at hj
    rw [Go.WideShapes.add_plain, h6 j hjl]
    simp [List.getElem?_eq_getElem hjl] at hj
    subst hj
    simp [List.getD, List.getElem?_eq_getElem hjl]

/-- 'append(v, x...)', v the call's own, in whatever order with what else the region does. -/
theorem append_G {P : Program} {k : IntKind} (w0 : World) (B : Nat) (t e : TypeId) (bytes : Nat) (ht : P.underlying t = some (.slice e))
    (hinfo : (P.info? e).map (fun i => (i.zero, i.size, i.bytes)) = some (some (.int k 0), 1, bytes)) (v x : Value) (acc ys : List Int)
    (hown : Own k e B w0 v acc) (hx : Sl k w0 x ys) (hap : ys = [] ∨ ∀ g ad n c, v.ownBlock = some g → x = .slice (some ad) n c → ad.block ≠ g)
    (hlen : (acc.length + ys.length) * bytes ≤ 140737488355328 ∧ acc.length + ys.length ≤ maxLen) (hB : B ≤ w0.heap.size) :
    ∃ go, (∀ k o, go = some (k, o) → B ≤ k) ∧ ∀ ty w, ExtG go w0 w → ∃ u w', (Builtin.append_ #[t, t] ty #[v, x]).run P w = .ok u w' ∧ ExtG go w w' ∧ ∀ w'', ExtG go w' w'' → Sl k w'' u (acc ++ ys) := by
  obtain ⟨i0, hi, hz0, hz1, hz2⟩ := info_parts hinfo
  have hsmall : acc.length + ys.length ≤ 9223372036854775807 := by have := hlen.2; simp only [maxLen] at this; omega
  obtain ⟨ad, c, hxs, hx1, hx2, hx3, hx4⟩ := id hx
  cases ad with
  | none =>
    have hc := hx3 rfl
    subst hc
    have hy : ys = [] := List.length_eq_zero_iff.1 (by omega)
    subst hy
    subst hxs
    refine ⟨none, fun k o h => (by cases h), fun ty w hw => ⟨v, w, ?_, ExtG.refl _, fun w'' hw'' => ?_⟩⟩
    · exact run_append_owned_none (P := P) (w := w) B t ty e i0 1 ht hi v _ _ (hown.ext hw.ext)
    · rw [List.append_nil]; exact ((hown.ext hw.ext).ext hw''.ext).sl
  | some ad =>
    subst hxs
    have keep : ∀ w : World, Ext w0 w → ∀ j u, (ys.map (Value.int k))[j]? = some u → w.cell? (ad.add j) = some u := fun w hw => (hx.ext hw).newsOf.2
    have news : ∀ w : World, (∀ j u, (ys.map (Value.int k))[j]? = some u → w.cell? (ad.add j) = some u) → True := fun _ _ => trivial
    have hmap : (acc ++ ys).map (Value.int k) = acc.map (Value.int k) ++ ys.map (Value.int k) := List.map_append
    -- a new row
    have new : ∀ (w : World) (cap : Nat), acc.length + ys.length ≤ cap → cap ≤ maxLen → ∀ r : Array Value, ∀ w'', Ext (w.drew.alloc (.cells ((acc.map (Value.int k)).toArray ++ (ys.map (Value.int k)).toArray ++ r) e)) w'' →
        Sl k w'' (.slice (some ⟨w.heap.size, 0, none⟩) (acc.length + ys.length) cap) (acc ++ ys) := fun w cap h1 h2 r w'' hw'' => by
      have := Sl.newRow (k := k) (e := e) w (acc ++ ys) r (acc.length + ys.length) cap (by simp) h1 h2
      rw [hmap, show ((acc.map (Value.int k) ++ ys.map (Value.int k)).toArray : Array Value) = (acc.map (Value.int k)).toArray ++ (ys.map (Value.int k)).toArray by simp] at this
      exact this.ext hw''
    rcases hown.2 with ⟨rfl, h0⟩ | ⟨g, cap, cur, rfl, hbg, hg, hnc, hcm, hcs, htake⟩
    · have ha : acc = [] := List.length_eq_zero_iff.1 h0
      subst ha
      by_cases hm : ys.length = 0
      · have hy : ys = [] := List.length_eq_zero_iff.1 hm
        subst hy
        refine ⟨none, fun k o h => (by cases h), fun ty w hw => ⟨.slice none 0 0, w, ?_, ExtG.refl _, fun w'' hw'' => ?_⟩⟩
        · simp [Builtin.append_, run_underlying ht, sizeOf, typeInfo, hi, Builtin.lenOf, Builtin.firstCells, loadCells, loadCellsFrom]
        · exact (Own.nil k e B w'').sl
      · refine ⟨none, fun k o h => (by cases h), fun ty w hw => ?_⟩
        have hr := run_append_nil (P := P) w t ty e i0 (.int k 0) ht hi hz0 ad ys.length c (ys.map (Value.int k)) (by simp [hz1]) (keep w hw.ext) (by omega) (by simp at hsmall; omega) (by rw [hz2]; have := hlen.1; simp at this; omega)
        refine ⟨_, _, hr, ExtG.ofExt ⟨rfl, rfl, rfl, by simp, fun j hj => heap_alloc_old w.drew _ hj⟩, fun w'' hw'' => ?_⟩
        have hge := grownCap_ge w ys.length 0 e
        have hcm : grownCap w ys.length 0 e ≤ maxLen := grownCap_le_maxLen w ys.length 0 e (by have := hlen.2; simpa using this)
        have := new w (grownCap w ys.length 0 e) (by simpa using hge) hcm (Builtin.zeroCells (Value.int k 0).cells (grownCap w ys.length 0 e - ys.length)) w'' (by simpa using hw''.ext)
        simpa using this
    · by_cases hroom : acc.length + ys.length ≤ cap
      · -- there is room: the row becomes one known row
        have hne : ys = [] ∨ ad.block ≠ g := by
          rcases hap with h | h
          · exact .inl h
          · exact .inr (h g ad _ _ rfl rfl)
        have hrow : ∀ cur' : Array Value, (cur'.toList.take acc.length ++ ys.map (Value.int k) ++ cur'.toList.drop (acc.length + ys.length)) = (cur'.toList.take acc.length ++ (ys.map (Value.int k) ++ cur'.toList.drop (acc.length + ys.length))) := fun _ => List.append_assoc _ _ _
        have hcs' : cur.size = cap := by simpa using hcs
        have htk : cur.toList.take acc.length = acc.map (Value.int k) := by simpa using htake
        let row : List Value := acc.map (Value.int k) ++ ys.map (Value.int k) ++ cur.toList.drop (acc.length + ys.length)
        have hrl : row.length = cap := by simp [row]; omega
        refine ⟨some (g, .cells row.toArray e (0, 0)), fun j o h => ?_, fun ty w hw => ?_⟩
        · simp only [Option.some.injEq, Prod.mk.injEq] at h; omega
        have hgl : g < w0.heap.size := (Array.getElem?_eq_some_iff.1 hg).1
        obtain ⟨cur', hg', hs', ht', hd'⟩ : ∃ cur' : Array Value, w.heap[g]? = some (.cells cur' e (0, 0)) ∧ cur'.size = cap ∧ cur'.toList.take acc.length = acc.map (Value.int k) ∧ cur'.toList.drop (acc.length + ys.length) = cur.toList.drop (acc.length + ys.length) := by
          rcases hw.block g hgl with h | ⟨o, h1, h2⟩
          · exact ⟨cur, h.trans hg, hcs', htk, rfl⟩
          · simp only [Option.some.injEq, Prod.mk.injEq, true_and] at h1
            rw [← h1] at h2
            refine ⟨_, h2, by simpa using hrl, ?_, ?_⟩
            · show row.take acc.length = _
              have e1 : acc.length = (acc.map (Value.int k)).length := by simp
              simp only [row, List.append_assoc]
              rw [e1]; exact List.take_left
            · show row.drop (acc.length + ys.length) = _
              have e1 : acc.length + ys.length = (acc.map (Value.int k) ++ ys.map (Value.int k)).length := by simp
              simp only [row]
              rw [e1]; exact List.drop_left
        have hnews : ∀ j u, (ys.map (Value.int k))[j]? = some u → w.cell? (ad.add j) = some u := fun j u hj => by
          have h0 := hx.newsOf.2 j u hj
          rcases hne with h | h
          · subst h; simp at hj
          · have hb : (ad.add j).block = ad.block := by unfold Addr.add; split <;> rfl
            have hlt := World.block_lt_of_cell? _ _ h0
            rcases hw.block (ad.add j).block hlt with h1 | ⟨o, h1, _⟩
            · exact (World.cell?_of_block h1).trans h0
            · simp only [Option.some.injEq, Prod.mk.injEq] at h1
              exact absurd (h1.1.trans hb).symm h
        have hr := run_append_room (P := P) w t ty e i0 ht hi g acc.length cap cur' hg' ad ys.length c (ys.map (Value.int k)) (by simp [hz1]) hnews (ints_one ys) hroom (by simp [hz1]; omega)
        rw [hz1, Nat.mul_one, ht', List.length_map, hd'] at hr
        have hset := setRow_heap w g cur' row.toArray e (0, 0) hg'
        refine ⟨_, _, hr, ⟨rfl, rfl, rfl, by simp [World.setRow], fun j hj => ?_⟩, fun w'' hw'' => ?_⟩
        · by_cases hjg : j = g
          · subst hjg; exact .inr ⟨_, rfl, hset⟩
          · exact .inl (setRow_other w g j _ hjg)
        · have hgl' : g < (w.setRow g row.toArray).heap.size := (Array.getElem?_eq_some_iff.1 hset).1
          have hfin : w''.heap[g]? = some (.cells row.toArray e (0, 0)) := by
            rcases hw''.block g hgl' with h | ⟨o, h1, h2⟩
            · exact h.trans hset
            · simp only [Option.some.injEq, Prod.mk.injEq, true_and] at h1
              rw [h1]; exact h2
          have hl : (acc ++ ys).length = acc.length + ys.length := List.length_append
          refine ⟨_, cap, by rw [hl], by omega, hcm, (fun h => by cases h), .inr ⟨g, 0, rfl, fun i hi => ?_⟩⟩
          simp only [World.cell?, hfin, Nat.zero_add]
          have e1 : row = (acc ++ ys).map (Value.int k) ++ cur.toList.drop (acc.length + ys.length) := by simp [row]
          rw [e1]
          simp only [List.getElem?_toArray]
          rw [List.getElem?_append_left (by rw [List.length_map]; exact hi), List.getElem?_map, List.getElem?_eq_getElem hi, List.getD_eq_getElem?_getD, List.getElem?_eq_getElem hi]
          rfl
      · refine ⟨none, fun k o h => (by cases h), fun ty w hw => ?_⟩
        have hown' := hown.ext hw.ext
        have holds : ∀ j u, (acc.map (Value.int k))[j]? = some u → w.cell? ((⟨g, 0, none⟩ : Addr).add j) = some u := World.ownsRow.cells hown' (g := g) rfl
        have hr := run_append_grow (P := P) w t ty e i0 (.int k 0) ht hi hz0 ⟨g, 0, none⟩ acc.length cap (acc.map (Value.int k)) (by simp [hz1]) holds ad ys.length c (ys.map (Value.int k)) (by simp [hz1]) (keep w hw.ext) (by omega) (by omega) (by rw [hz2]; exact growslice_fits (by omega) hlen.1)
        refine ⟨_, _, hr, ExtG.ofExt ⟨rfl, rfl, rfl, by simp, fun j hj => heap_alloc_old w.drew _ hj⟩, fun w'' hw'' => ?_⟩
        exact new w _ (grownCap_ge w _ cap e) (grownCap_le_maxLen w _ cap e hlen.2) _ w'' hw''.ext

theorem run_append_op {P : Program} {w w' : World} {ρ : Operand → Value} {o : Oper} {s x : Operand} {t : TypeId} {v u r : Value} (ho : o.op = .call { callee := .builtin .append, args := #[s, x], argTypes := #[t, t] }) (hs : ρ s = v) (hx : ρ x = u)
    (h : (Builtin.append_ #[t, t] o.type #[v, u]).run P w = .ok r w') : (execOp ρ o).run P w = .ok (.value r) w' := by
  unfold execOp
  simp only [ho, resolve, invoke, builtin, Sem.run_bind, Sem.run_pure, Result.andThen_ok, List.map_toArray, List.map_cons, List.map_nil, hs, hx, h]

theorem Own.but {k : IntKind} {e : TypeId} {B b : Nat} {w w' : World} {s : Value} {zs : List Int} (h : Own k e B w s zs) (hB : But b w w') (hb : b < B) : Own k e B w' s zs := by
  refine World.ownsRow.kept h hB ?_
  cases hv : s.ownBlock with
  | none => exact .inl rfl
  | some g =>
    refine .inr fun e => ?_
    have := (World.ownsRow.lt h g hv).1
    simp only [Option.some.injEq] at e
    omega

theorem Own.apart {k k' : IntKind} {e e' : TypeId} {B : Nat} {w w' : World} {v x : Value} {zs ys : List Int} (hv : Own k e B w v zs) (hx : Own k' e' w.heap.size w' x ys) : ∀ g ad n c, v.ownBlock = some g → x = .slice (some ad) n c → ad.block ≠ g := by
  intro g ad n c hg hxe
  have h1 := (World.ownsRow.lt hv g hg).2
  have h2 := (World.ownsRow.lt hx ad.block (by
    rcases hx.2 with ⟨h, _⟩ | ⟨g', cap, cur, h, _⟩
    · rw [h] at hxe; cases hxe
    · rw [hxe] at h; cases h; rw [hxe]; rfl)).1
  omega
end Go.Proofs.Ytmojnliljaefbaa
