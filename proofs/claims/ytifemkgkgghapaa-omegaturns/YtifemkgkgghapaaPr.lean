/- Rows of pairs ([][2]int): owned, read, made, appended to, stored into. -/
import Derived.Test.YtifemkgkgghapaaByt
import Derived.Laws.OwnMore
import Derived.Laws.MakeOwn
import Derived.Deep.MidRow
namespace Go.Proofs.Ytifemkgkgghapaa
set_option linter.unusedVariables false
set_option linter.unusedSimpArgs false
open Go.RowKit

def cellsP (l : List (Nat × Nat)) : List Value := l.flatMap fun p => [.int .i64 (p.1 : Int), .int .i64 (p.2 : Int)]
theorem cellsP_cons (p : Nat × Nat) (l : List (Nat × Nat)) : cellsP (p :: l) = .int .i64 (p.1 : Int) :: .int .i64 (p.2 : Int) :: cellsP l := rfl
theorem cellsP_app (l l' : List (Nat × Nat)) : cellsP (l ++ l') = cellsP l ++ cellsP l' := by unfold cellsP; rw [List.flatMap_append]
theorem cellsP_len : ∀ l : List (Nat × Nat), (cellsP l).length = l.length * 2
  | [] => rfl
  | p :: l => by rw [cellsP_cons]; simp only [List.length_cons]; rw [cellsP_len l]; omega
theorem cellsP_at : ∀ {l : List (Nat × Nat)} {i : Nat}, i < l.length → (cellsP l)[i * 2]? = some (.int .i64 ((l.getD i (0, 0)).1 : Nat)) ∧ (cellsP l)[i * 2 + 1]? = some (.int .i64 ((l.getD i (0, 0)).2 : Nat))
  | p :: l, 0, _ => ⟨rfl, rfl⟩
  | p :: l, i + 1, h => by
    have := cellsP_at (l := l) (i := i) (by simpa using h)
    rw [cellsP_cons, show (i + 1) * 2 = i * 2 + 1 + 1 by omega]
    simpa using this
theorem cellsP_one (l : List (Nat × Nat)) : ∀ u ∈ cellsP l, u.oneCell' = true := by
  intro u hu
  obtain ⟨p, _, h⟩ := List.mem_flatMap.1 hu
  simp only [List.mem_cons, List.not_mem_nil, or_false] at h
  rcases h with rfl | rfl <;> rfl
theorem cellsP_take (l : List (Nat × Nat)) (n : Nat) : (cellsP l).take (n * 2) = cellsP (l.take n) := by
  induction l generalizing n with
  | nil => simp [cellsP]
  | cons p l ih =>
    cases n with
    | zero => rfl
    | succ n =>
      rw [List.take_succ_cons, cellsP_cons, cellsP_cons, show (n + 1) * 2 = n * 2 + 1 + 1 by omega, List.take_succ_cons, List.take_succ_cons, ih]
theorem cellsP_drop (l : List (Nat × Nat)) (n : Nat) : (cellsP l).drop (n * 2) = cellsP (l.drop n) := by
  induction l generalizing n with
  | nil => simp [cellsP]
  | cons p l ih =>
    cases n with
    | zero => rfl
    | succ n =>
      rw [List.drop_succ_cons, cellsP_cons, show (n + 1) * 2 = n * 2 + 1 + 1 by omega, List.drop_succ_cons, List.drop_succ_cons, ih]
theorem cellsP_set (l : List (Nat × Nat)) (i : Nat) (p : Nat × Nat) : ((cellsP l).set (i * 2) (.int .i64 (p.1 : Int))).set (i * 2 + 1) (.int .i64 (p.2 : Int)) = cellsP (l.set i p) := by
  induction l generalizing i with
  | nil => simp [cellsP]
  | cons q l ih =>
    cases i with
    | zero => rfl
    | succ i =>
      rw [List.set_cons_succ, cellsP_cons, cellsP_cons, show (i + 1) * 2 = i * 2 + 1 + 1 by omega, show i * 2 + 1 + 1 + 1 = (i * 2 + 1) + 1 + 1 by omega]
      simp only [List.set_cons_succ]
      rw [ih]

/-- A row of pairs of the call's own. -/
def OwnP (B : Nat) (w : World) (s : Value) (l : List (Nat × Nat)) : Prop := w.ownsRow B 38 2 s l.length (cellsP l)
/-- A row of pairs that may be read. -/
def SlP (w : World) (v : Value) (l : List (Nat × Nat)) : Prop :=
  ∃ a c, v = .slice a l.length c ∧ l.length ≤ c ∧ c ≤ maxLen ∧ (a = none → c = 0) ∧ (l = [] ∨ ∃ b off, a = some ⟨b, off, none⟩ ∧ w.rangeAt b off (cellsP l))

theorem SlP.ext {w w' : World} {v : Value} {l : List (Nat × Nat)} (h : SlP w v l) (he : Ext w w') : SlP w' v l := by
  obtain ⟨a, c, h1, h2, h3, h0, h4⟩ := h
  refine ⟨a, c, h1, h2, h3, h0, ?_⟩
  rcases h4 with h4 | ⟨b, off, h4, h5⟩
  · exact .inl h4
  · exact .inr ⟨b, off, h4, fun j v hj => he.cellOf (h5 j v hj)⟩
theorem OwnP.ext {B : Nat} {w w' : World} {s : Value} {l : List (Nat × Nat)} (h : OwnP B w s l) (he : Ext w w') : OwnP B w' s l :=
  World.ownsRow.kept (row := none) h ⟨he.os, he.tape, he.output, he.size, fun i hi _ => he.block i hi⟩ (by cases hv : s.ownBlock <;> simp)
theorem OwnP.low {B B' : Nat} {w : World} {s : Value} {l : List (Nat × Nat)} (h : OwnP B w s l) (hB : B' ≤ B) : OwnP B' w s l := by
  obtain ⟨h1, h2⟩ := h
  refine ⟨h1, ?_⟩
  rcases h2 with h2 | ⟨g, cap, cur, h2, h3, h4⟩
  · exact .inl h2
  · exact .inr ⟨g, cap, cur, h2, Nat.le_trans hB h3, h4⟩
theorem OwnP.nil (B : Nat) (w : World) : OwnP B w (.slice none 0 0) [] := World.ownsRow_nil _ _ _ _
theorem OwnP.shape {B : Nat} {w : World} {s : Value} {l : List (Nat × Nat)} (h : OwnP B w s l) : ∃ a cap, s = .slice a l.length cap ∧ l.length ≤ cap ∧ cap ≤ maxLen ∧ (l ≠ [] → ∃ g, a = some ⟨g, 0, none⟩ ∧ B ≤ g) := by
  rcases h.2 with ⟨rfl, h2⟩ | ⟨g, cap, cur, h2, h3, _, h4, h5, _⟩
  · exact ⟨none, 0, by rw [h2], by omega, by simp [maxLen], fun hne => absurd (List.length_eq_zero_iff.1 h2) hne⟩
  · exact ⟨_, cap, h2, h4, h5, fun _ => ⟨g, rfl, h3⟩⟩
theorem OwnP.sl {B : Nat} {w : World} {s : Value} {l : List (Nat × Nat)} (h : OwnP B w s l) : SlP w s l := by
  have h' := h
  rcases h.2 with ⟨rfl, h2⟩ | ⟨g, cap, cur, rfl, _, hh, hn, hm, hs, ht⟩
  · exact ⟨none, 0, by rw [h2], by omega, by simp [maxLen], fun _ => rfl, .inl (List.length_eq_zero_iff.1 h2)⟩
  · refine ⟨_, cap, rfl, hn, hm, (fun h => by cases h), .inr ⟨g, 0, rfl, fun j v hj => ?_⟩⟩
    have := World.ownsRow.cells h (g := g) rfl j v hj
    rwa [Addr.add_mid] at this
/-- The pair at a place. -/
theorem SlP.at {w : World} {a : Option Addr} {n c : Nat} {l : List (Nat × Nat)} (h : SlP w (.slice a n c) l) : l.length = n ∧ n ≤ c ∧ c ≤ maxLen ∧ (0 < n → ∃ g off, a = some ⟨g, off, none⟩ ∧ ∀ i, i < n → w.cell? ⟨g, off + i * 2, none⟩ = some (.int .i64 ((l.getD i (0, 0)).1 : Nat)) ∧ w.cell? ⟨g, off + i * 2 + 1, none⟩ = some (.int .i64 ((l.getD i (0, 0)).2 : Nat))) := by
  obtain ⟨a', c', h1, h2, h3, h4, h5⟩ := h
  simp only [Value.slice.injEq] at h1
  obtain ⟨rfl, rfl, rfl⟩ := h1
  refine ⟨rfl, h2, h3, fun h0 => ?_⟩
  rcases h5 with rfl | ⟨g, off, h5, h6⟩
  · simp at h0
  · refine ⟨g, off, h5, fun i hi => ?_⟩
    obtain ⟨e1, e2⟩ := cellsP_at hi
    exact ⟨h6 _ _ e1, by rw [Nat.add_assoc]; exact h6 _ _ e2⟩
/-- The load of a whole pair. -/
theorem load_pair {w : World} {g o : Nat} {p : Nat × Nat} (h : w.cell? ⟨g, o, none⟩ = some (.int .i64 (p.1 : Int)) ∧ w.cell? ⟨g, o + 1, none⟩ = some (.int .i64 (p.2 : Int))) :
    (Instr.loadAt 38 (.pointer (some ⟨g, o, none⟩))).run Try.prog w = .ok (.agg #[.int .i64 (p.1 : Int), .int .i64 (p.2 : Int)]) w := by
  refine run_loadAt_mid w g o 38 [.int .i64 (p.1 : Int), .int .i64 (p.2 : Int)] _ (fun j v hj => ?_) Try.underlying38 rfl (by kernel_rfl)
  match j, hj with
  | 0, hj => simp at hj; subst hj; exact h.1
  | 1, hj => simp at hj; subst hj; exact h.2

theorem infoP : (Try.prog.info? 38).map (fun i => (i.zero, i.size, i.bytes)) = some (some (.agg #[.int .i64 0, .int .i64 0]), 2, 16) := by kernel_rfl
theorem info_partsP {P : Program} {e : TypeId} {z : Value} {n b : Nat} (h : (P.info? e).map (fun i => (i.zero, i.size, i.bytes)) = some (some z, n, b)) : ∃ i, P.info? e = some i ∧ i.zero = some z ∧ i.size = n ∧ i.bytes = b := by
  cases hi : P.info? e with
  | none => simp [hi] at h
  | some i =>
    simp only [hi, Option.map_some, Option.some.injEq, Prod.mk.injEq] at h
    exact ⟨i, rfl, h.1, h.2.1, h.2.2⟩

/-- 'append(s, [2]int{i, j})' -/
theorem wpList_snocP (w : World) {ops : Array Oper} {rest : List Oper} {o : Oper} {a : Act} {Q : Exit → Act → World → Prop} (hgd : o.guard = none) (s x : Operand)
    (ho : o.op = .call { callee := .builtin .append, args := #[s, x], argTypes := #[28, 28] }) (B : Nat) (v : Value) (l : List (Nat × Nat)) (p : Nat × Nat) (g : Nat) (hs : a.eval s = v) (hx : a.eval x = .slice (some ⟨g, 0, none⟩) 1 1)
    (hc : w.heap[g]? = some (.cells #[.int .i64 (p.1 : Int), .int .i64 (p.2 : Int)] 38 (0, 0))) (hown : OwnP B w v l) (hlen : l.length + 1 ≤ 1000000) (hB : B ≤ w.heap.size)
    (h : ∀ v' w', OwnP B w' v' (l ++ [p]) → Below B w w' → wpList Try.prog ops Q rest (a.put o.dst v') w') : wpList Try.prog ops Q (o :: rest) a w := by
  obtain ⟨i0, hi, hz0, hz1, hz2⟩ := info_partsP infoP
  refine wpList_append_own w hgd s x 28 ho B 38 i0 (.agg #[.int .i64 0, .int .i64 0]) 2 16 Try.underlying28 hi hz0 hz1 hz2 rfl (by decide) v _ _ hs hown ⟨g, 0, none⟩ 1 1 [.int .i64 (p.1 : Int), .int .i64 (p.2 : Int)] hx rfl ?_ (cellsP_one [p]) (by unfold maxLen; omega) (by omega) hB ?_
  · intro j u hj
    rw [Addr.add_mid, Nat.zero_add]
    match j, hj with
    | 0, hj => simp at hj; subst hj; simp [World.cell?, hc]
    | 1, hj => simp at hj; subst hj; simp [World.cell?, hc]
  · intro v' w' h1 h2 _
    refine h v' w' ?_ ((Below.refl _ _).grown h2 hB (fun k hk => (World.ownsRow.lt hown k hk).1))
    unfold OwnP
    rw [cellsP_app, List.length_append]
    exact h1

/-- 'make([][2]int, 0, n)' -/
theorem make_room (w : World) (n : Nat) (hn : n ≤ 1000000) : ∃ w', (Instr.makeSlice 28 (.int .i64 0) (.int .i64 (n : Int))).run Try.prog w = .ok (.slice (some ⟨w.heap.size, 0, none⟩) 0 n) w' ∧ OwnP w.heap.size w' (.slice (some ⟨w.heap.size, 0, none⟩) 0 n) [] ∧ Ext w w' := by
  obtain ⟨i0, hi, hz0, hz1, hz2⟩ := info_partsP infoP
  obtain ⟨w', h1, h2, h3⟩ := run_make_own (P := Try.prog) w w.heap.size 28 38 i0 _ 2 Try.underlying28 hi hz0 hz1 .i64 .i64 n (by rw [hz2]; omega) (by unfold maxLen; omega) (Nat.le_refl _)
  exact ⟨w', h1, h2, ⟨h3.os, h3.tape, h3.output, h3.size, fun k hk => h3.block k hk (by simp)⟩⟩
theorem madeP (n : Nat) : (madeCells #[Value.int .i64 0, Value.int .i64 0] (n * 2)).toList = cellsP (List.replicate n (0, 0)) := by
  have e : cellsP (List.replicate n (0, 0)) = List.replicate (n * 2) (Value.int .i64 0) := by
    induction n with
    | zero => rfl
    | succ n ih =>
      rw [List.replicate_succ, cellsP_cons, ih, show (n + 1) * 2 = n * 2 + 1 + 1 by omega, List.replicate_succ, List.replicate_succ]
      rfl
  rw [e]
  refine List.ext_getElem (by simp [madeCells]) fun k h1 h2 => ?_
  have hk : k % 2 = 0 ∨ k % 2 = 1 := by omega
  simp only [madeCells, Array.getElem_toList, Array.getElem_map, Array.getElem_range, List.getElem_replicate]
  rcases hk with hk | hk <;> simp [hk]
/-- 'make([][2]int, n)' -/
theorem make_pairs (w : World) (n : Nat) (hn : n ≤ 1000000) : ∃ w', (Instr.makeSlice 28 (.int .i64 (n : Int)) (.int .i64 (n : Int))).run Try.prog w = .ok (.slice (some ⟨w.heap.size, 0, none⟩) n n) w' ∧ OwnP w.heap.size w' (.slice (some ⟨w.heap.size, 0, none⟩) n n) (List.replicate n (0, 0)) ∧ Ext w w' := by
  obtain ⟨i0, hi, hz0, hz1, hz2⟩ := info_partsP infoP
  obtain ⟨w', h1, h2, h3⟩ := run_make_full (P := Try.prog) w w.heap.size 28 38 i0 _ 2 Try.underlying28 hi hz0 hz1 .i64 .i64 n (by rw [hz2]; omega) (by unfold maxLen; omega) (Nat.le_refl _)
  refine ⟨w', h1, ?_, ⟨h3.os, h3.tape, h3.output, h3.size, fun k hk => h3.block k hk (by simp)⟩⟩
  unfold OwnP
  rw [List.length_replicate, ← madeP]
  exact h2
/-- 'a[i] = p' -/
theorem OwnP.store {B : Nat} {w : World} {g n cap : Nat} {l : List (Nat × Nat)} (h : OwnP B w (.slice (some ⟨g, 0, none⟩) n cap) l) (hn : l.length = n) (i : Nat) (p : Nat × Nat) :
    OwnP B (w.setCells g (i * 2) [.int .i64 (p.1 : Int), .int .i64 (p.2 : Int)]) (.slice (some ⟨g, 0, none⟩) n cap) (l.set i p) := by
  subst hn
  have h1 := (World.ownsRow.stored h (i * 2) (.int .i64 (p.1 : Int))).1
  have h2 := (World.ownsRow.stored h1 (i * 2 + 1) (.int .i64 (p.2 : Int))).1
  rw [cellsP_set] at h2
  unfold OwnP
  rw [List.length_set]
  exact h2
theorem OwnP.there {B : Nat} {w : World} {g n cap : Nat} {l : List (Nat × Nat)} (h : OwnP B w (.slice (some ⟨g, 0, none⟩) n cap) l) (hn : l.length = n) {i : Nat} (hi : i < n) : w.there g (i * 2) 2 := by
  subst hn
  intro j hj
  refine ⟨?_, World.ownsRow.frozenAt h _⟩
  rw [World.ownsRow.cellAt h (i * 2 + j) (by omega), List.getElem?_eq_getElem (by rw [cellsP_len]; omega)]
  rfl
/-- What a store of a pair asks, cell by cell. -/
theorem OwnP.cells2 {B : Nat} {w : World} {g n cap : Nat} {l : List (Nat × Nat)} (h : OwnP B w (.slice (some ⟨g, 0, none⟩) n cap) l) (hn : l.length = n) {i : Nat} (hi : i < n) (v : Value) :
    (∃ x, w.cell? ⟨g, i * 2, none⟩ = some x) ∧ w.frozen? ⟨g, i * 2, none⟩ = false ∧ (∃ x, (w.setCell ⟨g, i * 2, none⟩ v).cell? ⟨g, i * 2 + 1, none⟩ = some x) ∧ (w.setCell ⟨g, i * 2, none⟩ v).frozen? ⟨g, i * 2 + 1, none⟩ = false := by
  subst hn
  have h1 := (World.ownsRow.stored h (i * 2) v).1
  have e1 := World.ownsRow.cellAt h (i * 2) (by omega)
  have e2 := World.ownsRow.cellAt h1 (i * 2 + 1) (by omega)
  rw [List.getElem?_eq_getElem (by rw [cellsP_len]; omega)] at e1
  rw [List.getElem?_eq_getElem (by rw [List.length_set, cellsP_len]; omega)] at e2
  exact ⟨⟨_, e1⟩, World.ownsRow.frozenAt h _, ⟨_, e2⟩, World.ownsRow.frozenAt h1 _⟩
theorem but_setCells (w : World) (b o : Nat) (vs : List Value) : But b w (w.setCells b o vs) := by
  induction vs generalizing w o with
  | nil => exact But.refl _ _
  | cons v vs ih => exact ((But.refl _ _).setCell o v).trans (ih _ _)
theorem store_pair {B : Nat} {w : World} {g n cap : Nat} {l : List (Nat × Nat)} (h : OwnP B w (.slice (some ⟨g, 0, none⟩) n cap) l) (hn : l.length = n) {i : Nat} (hi : i < n) (p : Nat × Nat) :
    (Instr.storeAt 38 (.pointer (some ⟨g, i * 2, none⟩)) (.agg #[.int .i64 (p.1 : Int), .int .i64 (p.2 : Int)])).run Try.prog w = .ok () (w.setCells g (i * 2) [.int .i64 (p.1 : Int), .int .i64 (p.2 : Int)]) :=
  run_storeAt_mid w g (i * 2) 38 #[.int .i64 (p.1 : Int), .int .i64 (p.2 : Int)] (h.there hn hi) (by kernel_rfl) (all_oneCell_toArray (cellsP_one [p]))
theorem sizeP : ∀ w, (Go.sizeOf 38).run Try.prog w = .ok 2 w := by intro w; kernel_rfl
/-- 's[:n]' -/
theorem SlP.runTake {w : World} {a : Option Addr} {len c : Nat} {l : List (Nat × Nat)} (h : SlP w (.slice a len c) l) (n : Nat) (hn : n ≤ l.length) :
    (∀ W, (Instr.slice 28 (.slice a len c) none (some (.int .i64 (n : Int))) none).run Try.prog W = .ok (.slice a n c) W) ∧ SlP w (.slice a n c) (l.take n) := by
  obtain ⟨a', c', h1, h2, h3, h4, h5⟩ := h
  simp only [Value.slice.injEq] at h1
  obtain ⟨rfl, rfl, rfl⟩ := h1
  have ht : Try.prog.underlying 28 = some (.slice 38) := Try.underlying28
  have ht' : Try.prog.underlying 28 = some (.slice (Try.prog.elem 28)) := by simp [Program.elem, ht]
  have he : Try.prog.elem 28 = 38 := by simp [Program.elem, ht]
  refine ⟨fun W => ?_, ?_⟩
  · rw [run_slice_h W 28 _ _ _ ht' .i64 _ (by omega) (by omega), he, sizeP]
    have hs : sliced a 0 n c 2 = .slice a n c := by
      unfold sliced
      by_cases h0 : c = 0
      · simp [h0]
      · cases a <;> simp [h0, Addr.add]
    simp only [Result.andThen, Int.toNat_natCast, hs]
  · have hl : (l.take n).length = n := by rw [List.length_take]; omega
    refine ⟨a, c, by rw [hl], by omega, h3, h4, ?_⟩
    rcases h5 with rfl | ⟨b, off, rfl, h6⟩
    · exact .inl (by simp)
    · refine .inr ⟨b, off, rfl, fun j v hj => ?_⟩
      rw [← cellsP_take, List.getElem?_take] at hj
      split at hj
      · exact h6 j v hj
      · cases hj
/-- 's[n:]' -/
theorem SlP.runDrop {w : World} {a : Option Addr} {len c : Nat} {l : List (Nat × Nat)} (h : SlP w (.slice a len c) l) (n : Nat) (hn : n ≤ l.length) :
    ∃ a', (∀ W, (Instr.slice 28 (.slice a len c) (some (.int .i64 (n : Int))) none none).run Try.prog W = .ok (.slice a' (len - n) (c - n)) W) ∧ SlP w (.slice a' (len - n) (c - n)) (l.drop n) := by
  obtain ⟨a', c', h1, h2, h3, h4, h5⟩ := h
  simp only [Value.slice.injEq] at h1
  obtain ⟨rfl, rfl, rfl⟩ := h1
  have ht : Try.prog.underlying 28 = some (.slice 38) := Try.underlying28
  have ht' : Try.prog.underlying 28 = some (.slice (Try.prog.elem 28)) := by simp [Program.elem, ht]
  have he : Try.prog.elem 28 = 38 := by simp [Program.elem, ht]
  refine ⟨if c = n then a else a.map (·.add (n * 2)), fun W => ?_, ?_⟩
  · rw [run_slice_l W 28 _ _ _ ht' .i64 _ (by omega) (by omega), he, sizeP]
    simp only [Result.andThen, Int.toNat_natCast, sliced]
  · have hl : (l.drop n).length = l.length - n := List.length_drop
    refine ⟨_, c - n, by rw [hl], by omega, by omega, fun h => ?_, ?_⟩
    · by_cases hcn : c = n
      · omega
      · rw [if_neg hcn] at h
        cases a with
        | none => have := h4 rfl; omega
        | some a => cases h
    · by_cases hcn : n = l.length
      · exact .inl (by rw [hcn]; simp)
      · rcases h5 with rfl | ⟨b, off, rfl, h6⟩
        · exact .inl (by simp)
        · refine .inr ⟨b, off + n * 2, ?_, fun j v hj => ?_⟩
          · rw [if_neg (by omega)]; simp [Addr.add]
          · rw [← cellsP_drop, List.getElem?_drop] at hj
            rw [Nat.add_assoc]
            exact h6 _ v hj
/-- What an append reads of it. -/
theorem SlP.news {w : World} {a : Option Addr} {n c : Nat} {l : List (Nat × Nat)} (h : SlP w (.slice a n c) l) : l.length = n ∧ (a = none → c = 0 ∧ n = 0) ∧ ∀ ad, a = some ad → ∀ j u, (cellsP l)[j]? = some u → w.cell? (ad.add j) = some u := by
  obtain ⟨a', c', h1, h2, h3, h4, h5⟩ := h
  simp only [Value.slice.injEq] at h1
  obtain ⟨rfl, rfl, rfl⟩ := h1
  refine ⟨rfl, fun e => ⟨h4 e, by have := h4 e; omega⟩, fun ad hd j u hj => ?_⟩
  rcases h5 with rfl | ⟨b, off, h5, h6⟩
  · simp [cellsP] at hj
  · rw [hd] at h5
    simp only [Option.some.injEq] at h5
    subst h5
    rw [Addr.add_mid]
    exact h6 j u hj
theorem finP_1 (A D : List (Nat × Nat)) (t : Nat × Nat) (n q : Nat) (hn : A.length = n) (h : q < n * 2) : (cellsP A)[q]? = (cellsP (A ++ [t] ++ D))[0 * 2 + q]? := by
  rw [cellsP_app, cellsP_app, Nat.zero_mul, Nat.zero_add, List.append_assoc, List.getElem?_append_left (by rw [cellsP_len, hn]; exact h)]
theorem finP_2 (A D : List (Nat × Nat)) (t : Nat × Nat) (n q : Nat) (hn : A.length = n) (h : q < 1 * 2) : (cellsP [t])[q]? = (cellsP (A ++ [t] ++ D))[n * 2 + q]? := by
  have e : (cellsP [t]).length = 2 := rfl
  rw [cellsP_app, cellsP_app, List.append_assoc, List.getElem?_append_right (by rw [cellsP_len, hn]; omega), cellsP_len, hn, List.getElem?_append_left (by rw [e]; omega)]
  congr 1
  omega
theorem finP_3 (A D : List (Nat × Nat)) (t : Nat × Nat) (n q : Nat) (hn : A.length = n) : (cellsP D)[q]? = (cellsP (A ++ [t] ++ D))[(n + 1) * 2 + q]? := by
  have e : (cellsP (A ++ [t])).length = (n + 1) * 2 := by rw [cellsP_len, List.length_append, hn]; rfl
  rw [cellsP_app (A ++ [t]) D, List.getElem?_append_right (by omega), e]
  congr 1
  omega
end Go.Proofs.Ytifemkgkgghapaa
