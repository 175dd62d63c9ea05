/- Rows of truths that a call owns: made, read, stored to. No conditions. -/
import Derived.Test.YtabgbioocfdjiaaByt
import Derived.Test.YtabgbioocfdjiaaBut
import Derived.Laws.OwnMore
namespace Go.Proofs.Ytabgbioocfdjiaa
set_option linter.unusedVariables false
set_option linter.unusedSimpArgs false
open Go.RowKit

theorem infoB : (Try.prog.info? 4).map (fun i => (i.zero, i.size, i.bytes)) = some (some (.bool false), 1, 1) := by kernel_rfl

/-- The call's own row of truths. -/
def OwnB (B : Nat) (w : World) (s : Value) (bs : List Bool) : Prop := w.ownsRow B 4 1 s bs.length (bs.map Value.bool)

theorem make_bools (w : World) (n : Nat) (hn : n ≤ 4000000) : ∃ w', (Instr.makeSlice 44 (.int .i64 (n : Int)) (.int .i64 (n : Int))).run Try.prog w = .ok (.slice (some ⟨w.heap.size, 0, none⟩) n n) w' ∧ OwnB w.heap.size w' (.slice (some ⟨w.heap.size, 0, none⟩) n n) (List.replicate n false) ∧ Ext w w' := by
  obtain ⟨i0, hi, hz0, hz1, hz2⟩ := info_parts infoB
  obtain ⟨w', h1, h2, h3⟩ := run_make_full (P := Try.prog) w w.heap.size 44 4 i0 (.bool false) 1 Try.underlying44 hi hz0 hz1 .i64 .i64 n (by rw [hz2]; omega) (by unfold maxLen; omega) (Nat.le_refl _)
  refine ⟨w', h1, ?_, ⟨h3.os, h3.tape, h3.output, h3.size, fun k hk => h3.block k hk (by simp)⟩⟩
  unfold OwnB
  have e1 : (Value.bool false).cells = #[Value.bool false] := rfl
  rw [e1, Nat.mul_one, toList_madeCells_one] at h2
  rw [List.length_replicate, List.map_replicate]
  exact h2

theorem OwnB.cell {B : Nat} {w : World} {g n cap : Nat} {bs : List Bool} (h : OwnB B w (.slice (some ⟨g, 0, none⟩) n cap) bs) (hn : bs.length = n) (j : Nat) (hj : j < n) : w.cell? ⟨g, j, none⟩ = some (.bool (bs.getD j false)) := by
  subst hn
  have := World.ownsRow.cellAt h j (by simpa using hj)
  rw [this]
  simp [List.getD, List.getElem?_eq_getElem hj]
theorem OwnB.frozen {B : Nat} {w : World} {g n cap : Nat} {bs : List Bool} (h : OwnB B w (.slice (some ⟨g, 0, none⟩) n cap) bs) (hn : bs.length = n) (j : Nat) : w.frozen? ⟨g, j, none⟩ = false := by
  subst hn
  exact World.ownsRow.frozenAt h j
theorem OwnB.store {B : Nat} {w : World} {g n cap : Nat} {bs : List Bool} (h : OwnB B w (.slice (some ⟨g, 0, none⟩) n cap) bs) (hn : bs.length = n) (j : Nat) (b : Bool) :
    OwnB B (w.setCell ⟨g, j, none⟩ (.bool b)) (.slice (some ⟨g, 0, none⟩) n cap) (bs.set j b) := by
  subst hn
  have := (World.ownsRow.stored h j (.bool b)).1
  unfold OwnB
  rw [List.length_set, List.map_set]
  exact this
theorem OwnB.ext {B : Nat} {w w' : World} {s : Value} {bs : List Bool} (h : OwnB B w s bs) (he : Ext w w') : OwnB B w' s bs :=
  World.ownsRow.kept (row := none) h ⟨he.os, he.tape, he.output, he.size, fun i hi _ => he.block i hi⟩ (by cases hv : s.ownBlock <;> simp)
/-- A row of truths that may be read. -/
def SlB (w : World) (v : Value) (bs : List Bool) : Prop :=
  ∃ a c, v = .slice a bs.length c ∧ bs.length ≤ c ∧ c ≤ maxLen ∧ (bs = [] ∨ ∃ b off, a = some ⟨b, off, none⟩ ∧ ∀ i, i < bs.length → w.cell? ⟨b, off + i, none⟩ = some (.bool (bs.getD i false)))

theorem SlB.ext {w w' : World} {v : Value} {bs : List Bool} (h : SlB w v bs) (he : Ext w w') : SlB w' v bs := by
  obtain ⟨a, c, h1, h2, h3, h4⟩ := h
  refine ⟨a, c, h1, h2, h3, ?_⟩
  rcases h4 with h4 | ⟨b, off, h4, h5⟩
  · exact .inl h4
  · exact .inr ⟨b, off, h4, fun i hi => he.cellOf (h5 i hi)⟩

theorem OwnB.sl {B : Nat} {w : World} {s : Value} {bs : List Bool} (h : OwnB B w s bs) : SlB w s bs := by
  obtain ⟨h1, h2⟩ := h
  rcases h2 with ⟨rfl, h2⟩ | ⟨g, cap, cur, rfl, _, hh, hn, hm, hs, ht⟩
  · exact ⟨none, 0, by rw [h2], by omega, by simp [maxLen], .inl (List.length_eq_zero_iff.1 h2)⟩
  · refine ⟨_, cap, rfl, hn, hm, .inr ⟨g, 0, rfl, fun i hi => ?_⟩⟩
    have : w.cell? ⟨g, 0 + i, none⟩ = cur[i]? := by simp [World.cell?, hh]
    rw [this]
    have h5 : cur.toList[i]? = (bs.map Value.bool)[i]? := by
      rw [← ht, List.getElem?_take, if_pos (by simpa using hi)]
    have h6 : cur[i]? = cur.toList[i]? := by simp
    rw [h6, h5]
    simp [List.getD, List.getElem?_eq_getElem hi]

theorem SlB.truth {w : World} {a : Option Addr} {n c : Nat} {bs : List Bool} (h : SlB w (.slice a n c) bs) : bs.length = n ∧ n ≤ c ∧ c ≤ maxLen ∧ (0 < n → ∃ g off, a = some ⟨g, off, none⟩ ∧ ∀ i, i < n → w.cell? ⟨g, off + i, none⟩ = some (.bool (bs.getD i false))) := by
  obtain ⟨a', c', h1, h2, h3, h4⟩ := h
  simp only [Value.slice.injEq] at h1
  obtain ⟨rfl, rfl, rfl⟩ := h1
  refine ⟨rfl, h2, h3, fun h0 => ?_⟩
  rcases h4 with h4 | ⟨b, off, h4, h5⟩
  · rw [h4] at h0; simp at h0
  · exact ⟨b, off, h4, h5⟩

theorem OwnB.nil (B : Nat) (w : World) : OwnB B w (.slice none 0 0) [] := World.ownsRow_nil _ _ _ _
theorem OwnB.alloc {B : Nat} {w : World} {s : Value} {bs : List Bool} (h : OwnB B w s bs) (o : Obj) : OwnB B (w.alloc o) s bs := World.ownsRow.alloc h o
theorem OwnB.low {B B' : Nat} {w : World} {s : Value} {bs : List Bool} (h : OwnB B w s bs) (hB : B' ≤ B) : OwnB B' w s bs := by
  obtain ⟨h1, h2⟩ := h
  refine ⟨h1, ?_⟩
  rcases h2 with h2 | ⟨g, cap, cur, h2, h3, h4⟩
  · exact .inl h2
  · exact .inr ⟨g, cap, cur, h2, Nat.le_trans hB h3, h4⟩

theorem oneB {b : Bool} : ∀ u ∈ [Value.bool b], u.oneCell' = true := by
  intro u hu; simp at hu; subst hu; rfl

/-- 'append(s, x)', s the call's own row of truths. -/
theorem wpList_snocB (w : World) {ops : Array Oper} {rest : List Oper} {o : Oper} {a : Act} {Q : Exit → Act → World → Prop} (hgd : o.guard = none) (s x : Operand)
    (ho : o.op = .call { callee := .builtin .append, args := #[s, x], argTypes := #[44, 44] }) (B : Nat) (v : Value) (bs : List Bool) (z : Bool) (ad : Addr) (hs : a.eval s = v) (hx : a.eval x = .slice (some ad) 1 1)
    (hcell : w.cell? ad = some (.bool z)) (hown : OwnB B w v bs) (hlen : bs.length + 1 ≤ 1000000) (hB : B ≤ w.heap.size)
    (h : ∀ v' w', OwnB B w' v' (bs ++ [z]) → Below B w w' → wpList Try.prog ops Q rest (a.put o.dst v') w') : wpList Try.prog ops Q (o :: rest) a w := by
  obtain ⟨i0, hi, hz0, hz1, hz2⟩ := info_parts infoB
  refine wpList_append_own w hgd s x 44 ho B 4 i0 (.bool false) 1 1 Try.underlying44 hi hz0 hz1 hz2 rfl (by decide) v _ _ hs hown ad 1 1 [.bool z] hx rfl ?_ oneB (by unfold maxLen; omega) (by omega) hB ?_
  · intro j u hj
    match j, hj with
    | 0, hj => simp at hj; subst hj; simpa [Addr.add] using hcell
  · intro v' w' h1 h2 _
    exact h v' w' (by unfold OwnB; simpa using h1) ((Below.refl _ _).grown h2 hB (fun k hk => (World.ownsRow.lt hown k hk).1))

theorem setB_same {l : List Bool} {i : Nat} {x : Bool} (h : i < l.length) : (l.set i x).getD i false = x := by simp [List.getD, h]
theorem setB_other {l : List Bool} {i j : Nat} {x : Bool} (h : i ≠ j) : (l.set i x).getD j false = l.getD j false := by
  simp [List.getD, List.getElem?_set_ne h]
theorem getB_ext {x y : List Bool} (hl : x.length = y.length) (h : ∀ k, k < x.length → x.getD k false = y.getD k false) : x = y := by
  refine List.ext_getElem hl fun k h1 h2 => ?_
  have := h k h1
  simpa [List.getD, List.getElem?_eq_getElem h1, List.getElem?_eq_getElem h2] using this
end Go.Proofs.Ytabgbioocfdjiaa
